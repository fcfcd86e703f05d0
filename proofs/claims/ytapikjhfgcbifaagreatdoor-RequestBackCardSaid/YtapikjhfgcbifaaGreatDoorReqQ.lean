/-
  Package request: Back.
-/
import Derived.Test.YtapikjhfgcbifaaGreatDoorReqP
import Derived.Laws.EntriesVeiled
namespace Go.Proofs.YtapikjhfgcbifaaGreatDoor
set_option maxRecDepth 100000
set_option linter.unusedVariables false
set_option linter.unusedSimpArgs false
open Go.RowKit
theorem mtc_le : ∀ (ns : List ByteArray) (l : List LnD), mtc ns l ≤ ns.length ∧ mtc ns l ≤ l.length
  | [], l => by simp [mtc]
  | nm :: ns, [] => by simp [mtc]
  | nm :: ns, x :: t => by
    have := mtc_le ns t
    simp only [mtc, List.length_cons]
    split <;> omega
theorem mtc_at : ∀ {k : Nat} {ns : List ByteArray} {l : List LnD} {nm : ByteArray} {x : LnD}, k ≤ mtc ns l → ns[k]? = some nm → l[k]? = some x → (x.1.1 = nm → k + 1 ≤ mtc ns l) ∧ (x.1.1 ≠ nm → mtc ns l = k)
  | k, [], l, nm, x, _, h, _ => by cases h
  | k, n :: ns, [], nm, x, _, _, h => by cases h
  | 0, n :: ns, y :: t, nm, x, _, h1, h2 => by
    simp at h1 h2
    subst h1 h2
    simp only [mtc]
    refine ⟨fun h => ?_, fun h => ?_⟩
    · rw [if_pos h]; omega
    · rw [if_neg h]
  | k + 1, n :: ns, y :: t, nm, x, hk, h1, h2 => by
    simp only [mtc] at hk ⊢
    split at hk
    · rename_i hy
      rw [if_pos hy]
      have := mtc_at (k := k) (ns := ns) (l := t) (nm := nm) (x := x) (by omega) (by simpa using h1) (by simpa using h2)
      refine ⟨fun h => by have := this.1 h; omega, fun h => by have := this.2 h; omega⟩
    · omega
/-- The request that is read, after k lines. -/
def arrB (l : List LnD) (k : Nat) : Array Value := #[.string (txtR l k 0), .string (txtR l k 1), .string (txtR l k 2), .string (txtR l k 3), .slice none 0 0, .slice none 0 0]
theorem txtR_old {l : List LnD} {k j : Nat} (h : j ≠ k) : txtR l (k + 1) j = txtR l k j := by
  unfold txtR
  by_cases h1 : j < k
  · rw [if_pos h1, if_pos (by omega)]
  · rw [if_neg h1, if_neg (by omega)]
theorem txtR_new {l : List LnD} {k : Nat} {x : LnD} (h : l[k]? = some x) : txtR l (k + 1) k = x.1.2 := by
  unfold txtR
  rw [if_pos (by omega), h]
theorem arrB_step {l : List LnD} {k : Nat} {x : LnD} (hk : k < 4) (h : l[k]? = some x) : (arrB l k).setIfInBounds k (.string x.1.2) = arrB l (k + 1) := by
  have hn := txtR_new h
  rcases (show k = 0 ∨ k = 1 ∨ k = 2 ∨ k = 3 by omega) with rfl | rfl | rfl | rfl
  all_goals
    unfold arrB
    rw [hn]
    simp [txtR_old]
theorem arrB_zero (l : List LnD) : arrB l 0 = #[.string ⟨#[]⟩, .string ⟨#[]⟩, .string ⟨#[]⟩, .string ⟨#[]⟩, .slice none 0 0, .slice none 0 0] := by
  unfold arrB txtR
  simp
theorem arrB_old {l : List LnD} {k : Nat} (hk : k < 4) : ∃ v, (arrB l k)[k]? = some v := by
  rcases (show k = 0 ∨ k = 1 ∨ k = 2 ∨ k = 3 by omega) with rfl | rfl | rfl | rfl <;> exact ⟨_, rfl⟩
theorem plc_at {W : World} {q b k : Nat} (h : Blk W q 72 (plcA b)) (hk : k < 4) : ∃ nm, namesR[k]? = some nm ∧ W.cell? ⟨q, k * 3, none⟩ = some (.string nm) ∧ W.cell? ⟨q, k * 3 + 1, none⟩ = some (.pointer (some ⟨b, k, none⟩)) := by
  rcases (show k = 0 ∨ k = 1 ∨ k = 2 ∨ k = 3 by omega) with rfl | rfl | rfl | rfl
  · exact ⟨_, rfl, (h.cell 0).trans rfl, (h.cell 1).trans rfl⟩
  · exact ⟨_, rfl, (h.cell 3).trans rfl, (h.cell 4).trans rfl⟩
  · exact ⟨_, rfl, (h.cell 6).trans rfl, (h.cell 7).trans rfl⟩
  · exact ⟨_, rfl, (h.cell 9).trans rfl, (h.cell 10).trans rfl⟩
theorem many_dropL {w : World} {b o : Nat} {l : List LnD} (h : Many lnD 3 w (some ⟨b, o, none⟩) l) (N : Nat) : Many lnD 3 w (some ⟨b, o + N * 3, none⟩) (l.drop N) := fun ht => by
  rw [List.length_drop] at ht
  obtain ⟨b2, o2, e, hb, hc⟩ := h (by omega)
  cases e
  refine ⟨b, o + N * 3, rfl, hb, fun k hk j hj => ?_⟩
  rw [List.length_drop] at hk
  have := hc (k + N) (by omega) j hj
  rw [show o + N * 3 + k * 3 + j = o + (k + N) * 3 + j by omega, List.getElem_drop]
  rw [this]
  congr 2
  simp [Nat.add_comm]
theorem txtR_size {l : List LnD} {B n k : Nat} (h : ∀ x ∈ l, x.1.2.size ≤ B) : (txtR l n k).size ≤ B := by
  have h0 : (⟨#[]⟩ : ByteArray).size = 0 := rfl
  unfold txtR
  split
  · split
    · rename_i x hx
      exact h x (List.mem_of_getElem? hx)
    · omega
  · omega
theorem nvR_at {N : Nat} {l : List LnD} {i : Nat} {x : LnD} (h : nvR N l = true) (hx : l[i]? = some x) : x.2 = (decide (N ≤ i) && senB x.1.1) := by
  unfold nvR at h
  rw [Bool.and_eq_true, List.all_eq_true, List.all_eq_true] at h
  by_cases hi : N ≤ i
  · rw [decide_eq_true hi, Bool.true_and]
    have := h.2 x (List.mem_of_getElem? (i := i - N) (by rw [List.getElem?_drop, show N + (i - N) = i by omega]; exact hx))
    simpa using this
  · rw [decide_eq_false hi, Bool.false_and]
    have := h.1 x (List.mem_of_getElem? (i := i) (by rw [List.getElem?_take_of_lt (by omega)]; exact hx))
    simpa using this
theorem nvR_all {N : Nat} {l : List LnD} (h : ∀ (j : Nat) y, l[j]? = some y → y.2 = (decide (N ≤ j) && senB y.1.1)) : nvR N l = true := by
  unfold nvR
  rw [Bool.and_eq_true, List.all_eq_true, List.all_eq_true]
  refine ⟨fun x hx => ?_, fun x hx => ?_⟩
  · obtain ⟨j, hj⟩ := List.getElem?_of_mem hx
    have hjl := (List.getElem?_eq_some_iff.1 hj).1
    rw [List.length_take] at hjl
    rw [List.getElem?_take_of_lt (by omega)] at hj
    rw [h j x hj, decide_eq_false (by omega)]; rfl
  · obtain ⟨j, hj⟩ := List.getElem?_of_mem hx
    rw [List.getElem?_drop] at hj
    rw [h _ x hj, decide_eq_true (by omega)]
    simp
def zeroR : Array Value := #[.string ⟨#[]⟩, .string ⟨#[]⟩, .string ⟨#[]⟩, .string ⟨#[]⟩, .slice none 0 0, .slice none 0 0]
/-- While the first lines are read. -/
structure BkI (l : List LnD) (w : World) (b q p k : Nat) (wr : World) : Prop where
  row : Blk wr b 25 (arrB l k)
  pl : Blk wr q 72 (plcA b)
  rs : Blk wr p 25 zeroR
  fr : Fresh w wr
  ks : k ≤ mtc namesR l
theorem BkI.fresh {l : List LnD} {w W W' : World} {b q p k : Nat} (h : BkI l w b q p k W) (hf : Fresh W W') : BkI l w b q p k W' := ⟨h.row.fresh hf, h.pl.fresh hf, h.rs.fresh hf, h.fr.trans hf, h.ks⟩
theorem BkI.step {l : List LnD} {w W : World} {b q p k : Nat} (h : BkI l w b q p k W) (hb : w.heap.size ≤ b) (hq : q ≠ b) (hp : p ≠ b) (hk : k < 4) {x : LnD} (hx : l[k]? = some x) (hm : k + 1 ≤ mtc namesR l) : BkI l w b q p (k + 1) (W.setCell ⟨b, k, none⟩ (.string x.1.2)) :=
  ⟨by rw [← arrB_step hk hx]; exact h.row.set k _, h.pl.far hq _, h.rs.far hp _, h.fr.step _ _ hb, hm⟩
def BackP (l : List LnD) (w : World) (e : Ending) (w' : World) : Prop :=
  ∃ (n : Nat) (m s p a : ByteArray) (A : Option Addr) (k : Nat), e = .returned (.tuple #[.agg #[.string m, .string s, .string p, .string a, .slice A k k, .slice none 0 0], .int .i64 (n : Int)]) ∧ n = backE l ∧ (n = 0 → m = txtR l (mtc namesR l) 0 ∧ s = txtR l (mtc namesR l) 1 ∧ p = txtR l (mtc namesR l) 2 ∧ a = txtR l (mtc namesR l) 3 ∧ k = (l.drop (mtc namesR l)).length ∧ Many fldD 2 w' A ((l.drop (mtc namesR l)).map (·.1))) ∧ Fresh w w'
set_option maxHeartbeats 32000000 in
theorem rq_back (A0 : Option Addr) (c0 : Nat) (l : List LnD) (w : World) (hm : Many lnD 3 w A0 l) (hl : l.length ≤ 1000) (hc : l.length ≤ c0) (hcm : c0 ≤ 9223372036854775807) (hs : ∀ x ∈ l, x.1.1.size ≤ 1000000 ∧ x.1.2.size ≤ 1000000) :
    Calls Tryz.prog 31 #[.slice A0 l.length c0] w (BackP l w) := by
  have HPL := Lib.hid (fun b w => rq_places b w)
  have HM := Lib.hid hm
  have HS := Lib.hid hs
  have HNO : Hid (∀ W (n : Nat), n = backE l → n ≠ 0 → Fresh w W → BackP l w (.returned (.tuple #[.agg #[.string ⟨#[]⟩, .string ⟨#[]⟩, .string ⟨#[]⟩, .string ⟨#[]⟩, .slice none 0 0, .slice none 0 0], .int .i64 (n : Int)])) W) := Lib.hid (fun W n h h0 hf => ⟨n, _, _, _, _, none, 0, rfl, h, fun e => absurd e h0, hf⟩)
  have HYES : Hid (∀ W (m s p a : ByteArray) (A : Option Addr) (k : Nat), 0 = backE l → (m = txtR l (mtc namesR l) 0 ∧ s = txtR l (mtc namesR l) 1 ∧ p = txtR l (mtc namesR l) 2 ∧ a = txtR l (mtc namesR l) 3 ∧ k = (l.drop (mtc namesR l)).length ∧ Many fldD 2 W A ((l.drop (mtc namesR l)).map (·.1))) → Fresh w W → BackP l w (.returned (.tuple #[.agg #[.string m, .string s, .string p, .string a, .slice A k k, .slice none 0 0], .int .i64 0])) W) := Lib.hid (fun W m s p a A k h h2 hf => ⟨0, m, s, p, a, A, k, rfl, h, fun _ => h2, hf⟩)
  obtain ⟨n, hn⟩ : ∃ n, l.length = n := ⟨_, rfl⟩
  have HN := Lib.hid hn
  rw [hn] at hl hc ⊢
  clear hm hs hn
  generalize BackP l w = PP at *
  go_enter Tryz.func31, Tryz.ntmps31
  obtain ⟨QB, hQB⟩ : ∃ QB, bodyPost Tryz.prog Tryz.f31 PP = QB := ⟨_, rfl⟩
  have HQB := Lib.hid hQB
  rw [hQB]
  clear hQB
  go_upto_region 2 with fail
  refine wp_gen (fun W => Blk W w.heap.size 25 zeroR ∧ Blk W (w.heap.size + 1) 25 zeroR ∧ Fresh w W) ⟨(Blk.new w _ _).fresh (Fresh.alloc _ _), by have := Blk.new (w.alloc (.cells #[.string ⟨#[]⟩, .string ⟨#[]⟩, .string ⟨#[]⟩, .string ⟨#[]⟩, .slice none 0 0, .slice none 0 0] 25)) 25 #[.string ⟨#[]⟩, .string ⟨#[]⟩, .string ⟨#[]⟩, .string ⟨#[]⟩, .slice none 0 0, .slice none 0 0]; simpa [zeroR] using this, (Fresh.alloc _ _).trans (Fresh.alloc _ _)⟩ ?_
  rintro W1 ⟨h1, h2, hf1⟩
  obtain ⟨p, hp⟩ : ∃ p, w.heap.size = p := ⟨_, rfl⟩
  obtain ⟨b, hb⟩ : ∃ b, p + 1 = b := ⟨_, rfl⟩
  have HPB := Lib.hid (And.intro hp hb)
  rw [hp] at h1 h2 ⊢
  rw [hb] at h2 ⊢
  clear hp hb
  have H1 := Lib.hid h1
  have H2 := Lib.hid h2
  have HF1 := Lib.hid hf1
  clear h1 h2 hf1
  go_wp2_with fail
  with_reducible refine (HPL.out b _).mono ?_
  rintro e w2 ⟨q, rfl, hq, hqb, hf2⟩
  have HI0 : Hid (BkI l w b q p 0 w2) := Lib.hid ⟨by rw [arrB_zero]; exact H2.out.fresh hf2, hq, H1.out.fresh hf2, HF1.out.trans hf2, Nat.zero_le _⟩
  have HQB2 : Hid (q ≠ b ∧ p ≠ b ∧ w.heap.size ≤ b ∧ w.heap.size ≤ p ∧ p < W1.heap.size ∧ b < W1.heap.size) := Lib.hid ⟨by have := H2.out.lt; omega, by have := HPB.out; omega, by have := HPB.out; omega, by have := HPB.out; omega, H1.out.lt, H2.out.lt⟩
  clear hq hqb hf2 HPL H1 H2 HF1
  go_wp2_with fail
  go_loopw [6] (fun i wr => ∃ k : Nat, k ≤ 4 ∧ k ≤ n ∧ i = .int .i64 (k : Int) ∧ BkI l w b q p k wr) (fun i _ => 4 - (intOf i).toNat)
  case atStart => exact ⟨0, by omega, by omega, rfl, HI0.out⟩
  case round =>
    obtain ⟨k, hk4, hkn, rfl, hI⟩ := hrel
    have HI := Lib.hid hI
    clear hI
    by_cases hk : k < 4
    rotate_left
    · obtain rfl : k = 4 := by omega
      rw [show ((4 : Nat) : Int) = 4 from rfl]
      have hmm : mtc namesR l = 4 := by
        have h1 := (mtc_le namesR l).1
        have h2 := HI.out.ks
        have h3 : namesR.length = 4 := rfl
        omega
      go_upto_region 4 with fail
      go_quiet (fail)
      all_goals
        refine wx_gen (fun W => Fresh wr W) (Fresh.drewN _ _) ?_
        rintro W hw
        have HIW := Lib.hid (HI.out.fresh hw)
        clear hw
        obtain ⟨x0, hx0⟩ : ∃ x, l[0]? = some x := ⟨_, List.getElem?_eq_getElem (by rw [HN.out]; omega)⟩
        obtain ⟨b0, o0, rfl, _⟩ := HM.out.lnAt 0 x0 hx0
        clear hx0
        by_cases hc4 : c0 = 4
        · obtain rfl : n = 4 := by omega
          subst hc4
          clear hc hkn
          obtain ⟨tl, htl⟩ : ∃ tl, l.drop 4 = tl := ⟨_, rfl⟩
          have HTLN : Hid (tl.length = 0) := Lib.hid (by have h := HN.out; rw [← htl, List.length_drop]; omega)
          have hmtl : Many lnD 3 w (some ⟨b0, o0, none⟩) tl := by rw [← htl]; rw [List.drop_eq_nil_of_le (Nat.le_of_eq HN.out)]; exact Many.nil _ _ _ _
          have hstl : ∀ x ∈ tl, x.1.2.size ≤ 1000000 := fun x hx => (HS.out x (by rw [← htl] at hx; exact List.mem_of_mem_drop hx)).2
          obtain ⟨ps, hps⟩ : ∃ ps, psB tl = ps := ⟨_, rfl⟩
          obtain ⟨ck, hck⟩ : ∃ ck, chkR tl = ck := ⟨_, rfl⟩
          have HPS := Lib.hid (fun W (h : Fresh w W) => rq_pseudo (some ⟨b0, o0, none⟩) 0 tl W (hmtl.fresh h) (by rw [HTLN.out]; omega) ps hps)
          have HCK := Lib.hid (fun W (h : Fresh w W) => cl_check (some ⟨b0, o0, none⟩) 0 tl W (hmtl.fresh h) (by rw [HTLN.out]; omega) hstl)
          have HFD := Lib.hid (fun W (h : Fresh w W) => de_fields (some ⟨b0, o0, none⟩) 0 tl W (hmtl.fresh h) (by rw [HTLN.out]; omega))
          unfold ChkP at HCK
          unfold FldsP at HFD
          rw [HTLN.out] at HPS HCK HFD
          rw [hck] at HCK
          obtain ⟨tm, htm⟩ : ∃ t, txtR l 4 0 = t := ⟨_, rfl⟩
          obtain ⟨ts, hts⟩ : ∃ t, txtR l 4 1 = t := ⟨_, rfl⟩
          obtain ⟨tp, htp⟩ : ∃ t, txtR l 4 2 = t := ⟨_, rfl⟩
          obtain ⟨ta, hta⟩ : ∃ t, txtR l 4 3 = t := ⟨_, rfl⟩
          have z0 := txtR_size (n := 4) (k := 0) (fun x hx => (HS.out x hx).2)
          have z2 := txtR_size (n := 4) (k := 2) (fun x hx => (HS.out x hx).2)
          have z3 := txtR_size (n := 4) (k := 3) (fun x hx => (HS.out x hx).2)
          rw [htm] at z0
          rw [htp] at z2
          rw [hta] at z3
          have HR0 := Lib.hid (fun w => rq_method tm w (by omega))
          have HR1 := Lib.hid (fun w => rq_scheme ts w)
          have HR2 := Lib.hid (fun w => rq_path tp w (by omega))
          have HR3 := Lib.hid (fun w => rq_visible ta w (by omega))
          obtain ⟨bb0, hb0'⟩ : ∃ b, mthB tm.data.toList = b := ⟨_, rfl⟩
          obtain ⟨bb1, hb1'⟩ : ∃ b, schB ts = b := ⟨_, rfl⟩
          obtain ⟨bb2, hb2'⟩ : ∃ b, pthB tp = b := ⟨_, rfl⟩
          obtain ⟨bb3, hb3'⟩ : ∃ b, visB ta.data.toList = b := ⟨_, rfl⟩
          have HRT : Hid (rightR tm ts tp ta = (bb0 && (bb1 && (bb2 && bb3)))) := Lib.hid (by unfold rightR; rw [hb0', hb1', hb2', hb3'])
          rw [hb0'] at HR0
          rw [hb1'] at HR1
          rw [hb2'] at HR2
          rw [hb3'] at HR3
          have HROW : Hid (∀ W, BkI l w b q p 4 W → W.cell? ⟨b, 0, none⟩ = some (.string tm) ∧ W.cell? ⟨b, 1, none⟩ = some (.string ts) ∧ W.cell? ⟨b, 2, none⟩ = some (.string tp) ∧ W.cell? ⟨b, 3, none⟩ = some (.string ta) ∧ Blk W b 25 #[.string tm, .string ts, .string tp, .string ta, .slice none 0 0, .slice none 0 0]) := Lib.hid (fun W h => by
            have hr := h.row
            unfold arrB at hr
            rw [htm, hts, htp, hta] at hr
            exact ⟨hr.cell 0, hr.cell 1, hr.cell 2, hr.cell 3, hr⟩)
          have HBE : Hid (backE l = if (4 = 4 ∧ ta.data.toList = []) ∨ psB tl = true then 32 else if rightR tm ts tp ta = false then 31 else if chkR tl ≠ 0 then chkR tl else if nvR 4 l = true then 0 else 32) := Lib.hid (by unfold backE; rw [hmm, htm, hts, htp, hta, htl, if_neg (by omega)])
          have HPSE := Lib.hid hps
          have HCKE := Lib.hid hck
          have HFIN : Hid (∀ (A : Option Addr) W, backE l = 0 → Many fldD 2 W A (tl.map (·.1)) → Fresh w W → PP (.returned (.tuple #[.agg #[.string tm, .string ts, .string tp, .string ta, .slice A 0 0, .slice none 0 0], .int .i64 0])) W) := Lib.hid (fun A W h0 hm hf => HYES.out W tm ts tp ta A 0 h0.symm (by rw [hmm]; exact ⟨htm.symm, hts.symm, htp.symm, hta.symm, by rw [htl, HTLN.out], by rw [htl]; exact hm⟩) hf)
          clear hmtl hstl hps hck htm hts htp hta z0 z2 z3 hb0' hb1' hb2' hb3' htl
          obtain ⟨_, _, _, t3, _⟩ := HROW.out W HIW.out
          have HTD : Hid (ta.toList = ta.data.toList) := Lib.hid (Lib.toList_data ta)
          by_cases hae : ta.data.toList = []
          · have m1 : ta.toList.isEmpty = true := by rw [HTD.out, hae]; rfl
            have hE32 : backE l = 32 := by rw [HBE.out, if_pos (.inl ⟨rfl, hae⟩)]
            have HE32 := Lib.hid hE32
            clear hE32 hae
            have r0 := HIW.out.rs.cell 0
            have r1 := HIW.out.rs.cell 1
            have r2 := HIW.out.rs.cell 2
            have r3 := HIW.out.rs.cell 3
            have r4 := HIW.out.rs.cell 4
            have r5 := HIW.out.rs.cell 5
            have f0 := HIW.out.rs.frozen 0
            have f1 := HIW.out.rs.frozen 1
            have f2 := HIW.out.rs.frozen 2
            have f3 := HIW.out.rs.frozen 3
            have f4 := HIW.out.rs.frozen 4
            have f5 := HIW.out.rs.frozen 5
            unfold zeroR at r0 r1 r2 r3 r4 r5
            simp at r0 r1 r2 r3 r4 r5
            go_wp2_with fail
            refine wx_gen (fun W => Blk W p 25 zeroR ∧ Fresh w W) ⟨by simpa [zeroR] using ((((((HIW.out.rs).set 0 (.string ⟨#[]⟩)).set 1 (.string ⟨#[]⟩)).set 2 (.string ⟨#[]⟩)).set 3 (.string ⟨#[]⟩)).set 4 (.slice none 0 0)).set 5 (.slice none 0 0), ((((((HIW.out.fr.step _ _ HQB2.out.2.2.2.1).step _ _ HQB2.out.2.2.2.1).step _ _ HQB2.out.2.2.2.1).step _ _ HQB2.out.2.2.2.1).step _ _ HQB2.out.2.2.2.1).step _ _ HQB2.out.2.2.2.1)⟩ ?_
            rintro W9 ⟨hb9, hf9⟩
            have q0 := hb9.cell 0
            have q1 := hb9.cell 1
            have q2 := hb9.cell 2
            have q3 := hb9.cell 3
            have q4 := hb9.cell 4
            have q5 := hb9.cell 5
            unfold zeroR at q0 q1 q2 q3 q4 q5
            simp at q0 q1 q2 q3 q4 q5
            rw [← HQB.out]
            exact bodyPost_ret (v := .tuple #[.agg #[.string ⟨#[]⟩, .string ⟨#[]⟩, .string ⟨#[]⟩, .string ⟨#[]⟩, .slice none 0 0, .slice none 0 0], .int .i64 32]) (by simp [results, Tryz.results31, go_sem, q0, q1, q2, q3, q4, q5]) rfl (HNO.out W9 32 HE32.out.symm (by decide) hf9)
          have m1 : ta.toList.isEmpty = false := by
            rw [HTD.out]
            cases h : ta.data.toList with
            | nil => exact absurd h hae
            | cons x t => rfl
          have HAE := Lib.hid hae
          clear hae
          go_wp2_with fail
          with_reducible refine (HPS.out _ HIW.out.fr).mono ?_
          rintro e w3 ⟨rfl, hf⟩
          have HI3 := Lib.hid (HIW.out.fresh hf)
          clear hf t3
          cases ps
          rotate_left
          · have hE32 : backE l = 32 := by rw [HBE.out, if_pos (.inr HPSE.out)]
            have HE32 := Lib.hid hE32
            clear hE32
            have r0 := HI3.out.rs.cell 0
            have r1 := HI3.out.rs.cell 1
            have r2 := HI3.out.rs.cell 2
            have r3 := HI3.out.rs.cell 3
            have r4 := HI3.out.rs.cell 4
            have r5 := HI3.out.rs.cell 5
            have f0 := HI3.out.rs.frozen 0
            have f1 := HI3.out.rs.frozen 1
            have f2 := HI3.out.rs.frozen 2
            have f3 := HI3.out.rs.frozen 3
            have f4 := HI3.out.rs.frozen 4
            have f5 := HI3.out.rs.frozen 5
            unfold zeroR at r0 r1 r2 r3 r4 r5
            simp at r0 r1 r2 r3 r4 r5
            go_wp2_with fail
            refine wx_gen (fun W => Blk W p 25 zeroR ∧ Fresh w W) ⟨by simpa [zeroR] using ((((((HI3.out.rs).set 0 (.string ⟨#[]⟩)).set 1 (.string ⟨#[]⟩)).set 2 (.string ⟨#[]⟩)).set 3 (.string ⟨#[]⟩)).set 4 (.slice none 0 0)).set 5 (.slice none 0 0), ((((((HI3.out.fr.step _ _ HQB2.out.2.2.2.1).step _ _ HQB2.out.2.2.2.1).step _ _ HQB2.out.2.2.2.1).step _ _ HQB2.out.2.2.2.1).step _ _ HQB2.out.2.2.2.1).step _ _ HQB2.out.2.2.2.1)⟩ ?_
            rintro W9 ⟨hb9, hf9⟩
            have q0 := hb9.cell 0
            have q1 := hb9.cell 1
            have q2 := hb9.cell 2
            have q3 := hb9.cell 3
            have q4 := hb9.cell 4
            have q5 := hb9.cell 5
            unfold zeroR at q0 q1 q2 q3 q4 q5
            simp at q0 q1 q2 q3 q4 q5
            rw [← HQB.out]
            exact bodyPost_ret (v := .tuple #[.agg #[.string ⟨#[]⟩, .string ⟨#[]⟩, .string ⟨#[]⟩, .string ⟨#[]⟩, .slice none 0 0, .slice none 0 0], .int .i64 32]) (by simp [results, Tryz.results31, go_sem, q0, q1, q2, q3, q4, q5]) rfl (HNO.out W9 32 HE32.out.symm (by decide) hf9)
          have HNE : Hid (¬ ((4 = 4 ∧ ta.data.toList = []) ∨ psB tl = true)) := Lib.hid (fun h => by rcases h with h | h; exact HAE.out h.2; rw [HPSE.out] at h; cases h)
          go_wp2_with fail
          go_loopw [71] (fun ix wr => ∃ k : Nat, k ≤ 4 ∧ ix = .int .i64 (k : Int) ∧ (0 < k → bb0 = true) ∧ (1 < k → bb1 = true) ∧ (2 < k → bb2 = true) ∧ (3 < k → bb3 = true) ∧ BkI l w b q p 4 wr) (fun i _ => 4 - (intOf i).toNat)
          case atStart => exact ⟨0, by omega, rfl, (fun h => by omega), (fun h => by omega), (fun h => by omega), (fun h => by omega), HI3.out⟩
          case round =>
            obtain ⟨k, hk, rfl, ht0, ht1, ht2, ht3, hIL⟩ := hrel
            have HIL := Lib.hid hIL
            have HT := Lib.hid (And.intro ht0 (And.intro ht1 (And.intro ht2 ht3)))
            clear hIL ht0 ht1 ht2 ht3
            rcases (show k = 0 ∨ k = 1 ∨ k = 2 ∨ k = 3 ∨ k = 4 by omega) with rfl | rfl | rfl | rfl | rfl
            · rw [show ((0 : Nat) : Int) = 0 from rfl]
              have hqk := HIL.out.pl
              have e0 := hqk.cell 0
              have e1 := hqk.cell 1
              have e2 := hqk.cell 2
              unfold plcA at e0 e1 e2
              simp at e0 e1 e2
              clear hqk
              go_upto_region 12 with fail
              refine wp_gen (fun W => Blk W wr.heap.size 72 #[.string mthN, .pointer (some ⟨b, 0, none⟩), .func (.func 47) #[] #[]] ∧ Fresh wr W) ⟨Blk.new wr _ _, Fresh.alloc _ _⟩ ?_
              rintro W ⟨hbw, hfw⟩
              obtain ⟨pp, hpp⟩ : ∃ p, wr.heap.size = p := ⟨_, rfl⟩
              rw [hpp] at hbw ⊢
              clear hpp e0 e1 e2
              have HSK : Hid (∀ w', Fresh W w' → w'.cell? ⟨pp, 0, none⟩ = some (.string mthN) ∧ w'.cell? ⟨pp, 1, none⟩ = some (.pointer (some ⟨b, 0, none⟩)) ∧ w'.cell? ⟨pp, 2, none⟩ = some (.func (.func 47) #[] #[]) ∧ w'.cell? ⟨b, 0, none⟩ = some (.string tm) ∧ Fresh W w') := Lib.hid (fun w' hw => ⟨(hbw.fresh hw).cell 0, (hbw.fresh hw).cell 1, (hbw.fresh hw).cell 2, (HROW.out _ (HIL.out.fresh (hfw.trans hw))).1, hw⟩)
              have HIW2 := Lib.hid (HIL.out.fresh hfw)
              clear hbw hfw HIL
              obtain ⟨y0, y1, y2, y3, _⟩ := HSK.out W (Fresh.refl _)
              go_region_held3 (fun w' => w'.cell? ⟨pp, 0, none⟩ = some (.string mthN) ∧ w'.cell? ⟨pp, 1, none⟩ = some (.pointer (some ⟨b, 0, none⟩)) ∧ w'.cell? ⟨pp, 2, none⟩ = some (.func (.func 47) #[] #[]) ∧ w'.cell? ⟨b, 0, none⟩ = some (.string tm) ∧ Fresh W w')
                ((refine HSK.out _ ?_; first | with_reducible assumption | with_reducible exact Fresh.drew _))
                (first | (go_at_call 47; (with_reducible refine (HR0.out _).mono ?_); rintro e wa ⟨rfl, hwa⟩; have hga : Fresh W wa := by (rw [hwa]; first | with_reducible assumption | with_reducible exact Fresh.drew _)))
              all_goals
                refine wx_gen (fun W2 => Fresh W W2) (by first | exact hga | exact Fresh.drew _) ?_
                clear y0 y1 y2 y3
                rintro W2 hw2
                have HIX := Lib.hid (HIW2.out.fresh hw2)
                clear hw2
                cases bb0
                · have hE31 : backE l = 31 := by rw [HBE.out, if_neg HNE.out, if_pos (by rw [HRT.out]; simp)]
                  have HE31 := Lib.hid hE31
                  clear hE31
                  have r0 := HIX.out.rs.cell 0
                  have r1 := HIX.out.rs.cell 1
                  have r2 := HIX.out.rs.cell 2
                  have r3 := HIX.out.rs.cell 3
                  have r4 := HIX.out.rs.cell 4
                  have r5 := HIX.out.rs.cell 5
                  have f0 := HIX.out.rs.frozen 0
                  have f1 := HIX.out.rs.frozen 1
                  have f2 := HIX.out.rs.frozen 2
                  have f3 := HIX.out.rs.frozen 3
                  have f4 := HIX.out.rs.frozen 4
                  have f5 := HIX.out.rs.frozen 5
                  unfold zeroR at r0 r1 r2 r3 r4 r5
                  simp at r0 r1 r2 r3 r4 r5
                  go_wp2_with fail
                  refine wx_gen (fun W => Blk W p 25 zeroR ∧ Fresh w W) ⟨by simpa [zeroR] using ((((((HIX.out.rs).set 0 (.string ⟨#[]⟩)).set 1 (.string ⟨#[]⟩)).set 2 (.string ⟨#[]⟩)).set 3 (.string ⟨#[]⟩)).set 4 (.slice none 0 0)).set 5 (.slice none 0 0), ((((((HIX.out.fr.step _ _ HQB2.out.2.2.2.1).step _ _ HQB2.out.2.2.2.1).step _ _ HQB2.out.2.2.2.1).step _ _ HQB2.out.2.2.2.1).step _ _ HQB2.out.2.2.2.1).step _ _ HQB2.out.2.2.2.1)⟩ ?_
                  rintro W9 ⟨hb9, hf9⟩
                  have q0 := hb9.cell 0
                  have q1 := hb9.cell 1
                  have q2 := hb9.cell 2
                  have q3 := hb9.cell 3
                  have q4 := hb9.cell 4
                  have q5 := hb9.cell 5
                  unfold zeroR at q0 q1 q2 q3 q4 q5
                  simp at q0 q1 q2 q3 q4 q5
                  rw [← HQB.out]
                  exact bodyPost_ret (v := .tuple #[.agg #[.string ⟨#[]⟩, .string ⟨#[]⟩, .string ⟨#[]⟩, .string ⟨#[]⟩, .slice none 0 0, .slice none 0 0], .int .i64 31]) (by simp [results, Tryz.results31, go_sem, q0, q1, q2, q3, q4, q5]) rfl (HNO.out W9 31 HE31.out.symm (by decide) hf9)
                go_wp2_with fail
                go_roundw
                case rel => exact ⟨0 + 1, by omega, by first | rfl | go_num, (fun _ => by trivial), (fun h => absurd h (by omega)), (fun h => absurd h (by omega)), (fun h => absurd h (by omega)), HIX.out⟩
                case measure => simp [intOf]
            · rw [show ((1 : Nat) : Int) = 1 from rfl]
              have hqk := HIL.out.pl
              have e0 := hqk.cell 3
              have e1 := hqk.cell 4
              have e2 := hqk.cell 5
              unfold plcA at e0 e1 e2
              simp at e0 e1 e2
              clear hqk
              go_upto_region 12 with fail
              refine wp_gen (fun W => Blk W wr.heap.size 72 #[.string schN, .pointer (some ⟨b, 1, none⟩), .func (.func 48) #[] #[]] ∧ Fresh wr W) ⟨Blk.new wr _ _, Fresh.alloc _ _⟩ ?_
              rintro W ⟨hbw, hfw⟩
              obtain ⟨pp, hpp⟩ : ∃ p, wr.heap.size = p := ⟨_, rfl⟩
              rw [hpp] at hbw ⊢
              clear hpp e0 e1 e2
              have HSK : Hid (∀ w', Fresh W w' → w'.cell? ⟨pp, 0, none⟩ = some (.string schN) ∧ w'.cell? ⟨pp, 1, none⟩ = some (.pointer (some ⟨b, 1, none⟩)) ∧ w'.cell? ⟨pp, 2, none⟩ = some (.func (.func 48) #[] #[]) ∧ w'.cell? ⟨b, 1, none⟩ = some (.string ts) ∧ Fresh W w') := Lib.hid (fun w' hw => ⟨(hbw.fresh hw).cell 0, (hbw.fresh hw).cell 1, (hbw.fresh hw).cell 2, (HROW.out _ (HIL.out.fresh (hfw.trans hw))).2.1, hw⟩)
              have HIW2 := Lib.hid (HIL.out.fresh hfw)
              clear hbw hfw HIL
              obtain ⟨y0, y1, y2, y3, _⟩ := HSK.out W (Fresh.refl _)
              go_region_held3 (fun w' => w'.cell? ⟨pp, 0, none⟩ = some (.string schN) ∧ w'.cell? ⟨pp, 1, none⟩ = some (.pointer (some ⟨b, 1, none⟩)) ∧ w'.cell? ⟨pp, 2, none⟩ = some (.func (.func 48) #[] #[]) ∧ w'.cell? ⟨b, 1, none⟩ = some (.string ts) ∧ Fresh W w')
                ((refine HSK.out _ ?_; first | with_reducible assumption | with_reducible exact Fresh.drew _))
                (first | (go_at_call 48; (with_reducible refine (HR1.out _).mono ?_); rintro e wa ⟨rfl, hwa⟩; have hga : Fresh W wa := by (rw [hwa]; first | with_reducible assumption | with_reducible exact Fresh.drew _)))
              all_goals
                refine wx_gen (fun W2 => Fresh W W2) (by first | exact hga | exact Fresh.drew _) ?_
                clear y0 y1 y2 y3
                rintro W2 hw2
                have HIX := Lib.hid (HIW2.out.fresh hw2)
                clear hw2
                cases bb1
                · have hE31 : backE l = 31 := by rw [HBE.out, if_neg HNE.out, if_pos (by rw [HRT.out]; simp)]
                  have HE31 := Lib.hid hE31
                  clear hE31
                  have r0 := HIX.out.rs.cell 0
                  have r1 := HIX.out.rs.cell 1
                  have r2 := HIX.out.rs.cell 2
                  have r3 := HIX.out.rs.cell 3
                  have r4 := HIX.out.rs.cell 4
                  have r5 := HIX.out.rs.cell 5
                  have f0 := HIX.out.rs.frozen 0
                  have f1 := HIX.out.rs.frozen 1
                  have f2 := HIX.out.rs.frozen 2
                  have f3 := HIX.out.rs.frozen 3
                  have f4 := HIX.out.rs.frozen 4
                  have f5 := HIX.out.rs.frozen 5
                  unfold zeroR at r0 r1 r2 r3 r4 r5
                  simp at r0 r1 r2 r3 r4 r5
                  go_wp2_with fail
                  refine wx_gen (fun W => Blk W p 25 zeroR ∧ Fresh w W) ⟨by simpa [zeroR] using ((((((HIX.out.rs).set 0 (.string ⟨#[]⟩)).set 1 (.string ⟨#[]⟩)).set 2 (.string ⟨#[]⟩)).set 3 (.string ⟨#[]⟩)).set 4 (.slice none 0 0)).set 5 (.slice none 0 0), ((((((HIX.out.fr.step _ _ HQB2.out.2.2.2.1).step _ _ HQB2.out.2.2.2.1).step _ _ HQB2.out.2.2.2.1).step _ _ HQB2.out.2.2.2.1).step _ _ HQB2.out.2.2.2.1).step _ _ HQB2.out.2.2.2.1)⟩ ?_
                  rintro W9 ⟨hb9, hf9⟩
                  have q0 := hb9.cell 0
                  have q1 := hb9.cell 1
                  have q2 := hb9.cell 2
                  have q3 := hb9.cell 3
                  have q4 := hb9.cell 4
                  have q5 := hb9.cell 5
                  unfold zeroR at q0 q1 q2 q3 q4 q5
                  simp at q0 q1 q2 q3 q4 q5
                  rw [← HQB.out]
                  exact bodyPost_ret (v := .tuple #[.agg #[.string ⟨#[]⟩, .string ⟨#[]⟩, .string ⟨#[]⟩, .string ⟨#[]⟩, .slice none 0 0, .slice none 0 0], .int .i64 31]) (by simp [results, Tryz.results31, go_sem, q0, q1, q2, q3, q4, q5]) rfl (HNO.out W9 31 HE31.out.symm (by decide) hf9)
                go_wp2_with fail
                go_roundw
                case rel => exact ⟨1 + 1, by omega, by first | rfl | go_num, (fun _ => HT.out.1 (by omega)), (fun _ => by trivial), (fun h => absurd h (by omega)), (fun h => absurd h (by omega)), HIX.out⟩
                case measure => simp [intOf]
            · rw [show ((2 : Nat) : Int) = 2 from rfl]
              have hqk := HIL.out.pl
              have e0 := hqk.cell 6
              have e1 := hqk.cell 7
              have e2 := hqk.cell 8
              unfold plcA at e0 e1 e2
              simp at e0 e1 e2
              clear hqk
              go_upto_region 12 with fail
              refine wp_gen (fun W => Blk W wr.heap.size 72 #[.string pthN, .pointer (some ⟨b, 2, none⟩), .func (.func 49) #[] #[]] ∧ Fresh wr W) ⟨Blk.new wr _ _, Fresh.alloc _ _⟩ ?_
              rintro W ⟨hbw, hfw⟩
              obtain ⟨pp, hpp⟩ : ∃ p, wr.heap.size = p := ⟨_, rfl⟩
              rw [hpp] at hbw ⊢
              clear hpp e0 e1 e2
              have HSK : Hid (∀ w', Fresh W w' → w'.cell? ⟨pp, 0, none⟩ = some (.string pthN) ∧ w'.cell? ⟨pp, 1, none⟩ = some (.pointer (some ⟨b, 2, none⟩)) ∧ w'.cell? ⟨pp, 2, none⟩ = some (.func (.func 49) #[] #[]) ∧ w'.cell? ⟨b, 2, none⟩ = some (.string tp) ∧ Fresh W w') := Lib.hid (fun w' hw => ⟨(hbw.fresh hw).cell 0, (hbw.fresh hw).cell 1, (hbw.fresh hw).cell 2, (HROW.out _ (HIL.out.fresh (hfw.trans hw))).2.2.1, hw⟩)
              have HIW2 := Lib.hid (HIL.out.fresh hfw)
              clear hbw hfw HIL
              obtain ⟨y0, y1, y2, y3, _⟩ := HSK.out W (Fresh.refl _)
              go_region_held3 (fun w' => w'.cell? ⟨pp, 0, none⟩ = some (.string pthN) ∧ w'.cell? ⟨pp, 1, none⟩ = some (.pointer (some ⟨b, 2, none⟩)) ∧ w'.cell? ⟨pp, 2, none⟩ = some (.func (.func 49) #[] #[]) ∧ w'.cell? ⟨b, 2, none⟩ = some (.string tp) ∧ Fresh W w')
                ((refine HSK.out _ ?_; first | with_reducible assumption | with_reducible exact Fresh.drew _))
                (first | (go_at_call 49; (with_reducible refine (HR2.out _).mono ?_); rintro e wa ⟨rfl, hwa⟩; have hga : Fresh W wa := by (rw [hwa]; first | with_reducible assumption | with_reducible exact Fresh.drew _)))
              all_goals
                refine wx_gen (fun W2 => Fresh W W2) (by first | exact hga | exact Fresh.drew _) ?_
                clear y0 y1 y2 y3
                rintro W2 hw2
                have HIX := Lib.hid (HIW2.out.fresh hw2)
                clear hw2
                cases bb2
                · have hE31 : backE l = 31 := by rw [HBE.out, if_neg HNE.out, if_pos (by rw [HRT.out]; simp)]
                  have HE31 := Lib.hid hE31
                  clear hE31
                  have r0 := HIX.out.rs.cell 0
                  have r1 := HIX.out.rs.cell 1
                  have r2 := HIX.out.rs.cell 2
                  have r3 := HIX.out.rs.cell 3
                  have r4 := HIX.out.rs.cell 4
                  have r5 := HIX.out.rs.cell 5
                  have f0 := HIX.out.rs.frozen 0
                  have f1 := HIX.out.rs.frozen 1
                  have f2 := HIX.out.rs.frozen 2
                  have f3 := HIX.out.rs.frozen 3
                  have f4 := HIX.out.rs.frozen 4
                  have f5 := HIX.out.rs.frozen 5
                  unfold zeroR at r0 r1 r2 r3 r4 r5
                  simp at r0 r1 r2 r3 r4 r5
                  go_wp2_with fail
                  refine wx_gen (fun W => Blk W p 25 zeroR ∧ Fresh w W) ⟨by simpa [zeroR] using ((((((HIX.out.rs).set 0 (.string ⟨#[]⟩)).set 1 (.string ⟨#[]⟩)).set 2 (.string ⟨#[]⟩)).set 3 (.string ⟨#[]⟩)).set 4 (.slice none 0 0)).set 5 (.slice none 0 0), ((((((HIX.out.fr.step _ _ HQB2.out.2.2.2.1).step _ _ HQB2.out.2.2.2.1).step _ _ HQB2.out.2.2.2.1).step _ _ HQB2.out.2.2.2.1).step _ _ HQB2.out.2.2.2.1).step _ _ HQB2.out.2.2.2.1)⟩ ?_
                  rintro W9 ⟨hb9, hf9⟩
                  have q0 := hb9.cell 0
                  have q1 := hb9.cell 1
                  have q2 := hb9.cell 2
                  have q3 := hb9.cell 3
                  have q4 := hb9.cell 4
                  have q5 := hb9.cell 5
                  unfold zeroR at q0 q1 q2 q3 q4 q5
                  simp at q0 q1 q2 q3 q4 q5
                  rw [← HQB.out]
                  exact bodyPost_ret (v := .tuple #[.agg #[.string ⟨#[]⟩, .string ⟨#[]⟩, .string ⟨#[]⟩, .string ⟨#[]⟩, .slice none 0 0, .slice none 0 0], .int .i64 31]) (by simp [results, Tryz.results31, go_sem, q0, q1, q2, q3, q4, q5]) rfl (HNO.out W9 31 HE31.out.symm (by decide) hf9)
                go_wp2_with fail
                go_roundw
                case rel => exact ⟨2 + 1, by omega, by first | rfl | go_num, (fun _ => HT.out.1 (by omega)), (fun _ => HT.out.2.1 (by omega)), (fun _ => by trivial), (fun h => absurd h (by omega)), HIX.out⟩
                case measure => simp [intOf]
            · rw [show ((3 : Nat) : Int) = 3 from rfl]
              have hqk := HIL.out.pl
              have e0 := hqk.cell 9
              have e1 := hqk.cell 10
              have e2 := hqk.cell 11
              unfold plcA at e0 e1 e2
              simp at e0 e1 e2
              clear hqk
              go_upto_region 12 with fail
              refine wp_gen (fun W => Blk W wr.heap.size 72 #[.string autN, .pointer (some ⟨b, 3, none⟩), .func (.func 50) #[] #[]] ∧ Fresh wr W) ⟨Blk.new wr _ _, Fresh.alloc _ _⟩ ?_
              rintro W ⟨hbw, hfw⟩
              obtain ⟨pp, hpp⟩ : ∃ p, wr.heap.size = p := ⟨_, rfl⟩
              rw [hpp] at hbw ⊢
              clear hpp e0 e1 e2
              have HSK : Hid (∀ w', Fresh W w' → w'.cell? ⟨pp, 0, none⟩ = some (.string autN) ∧ w'.cell? ⟨pp, 1, none⟩ = some (.pointer (some ⟨b, 3, none⟩)) ∧ w'.cell? ⟨pp, 2, none⟩ = some (.func (.func 50) #[] #[]) ∧ w'.cell? ⟨b, 3, none⟩ = some (.string ta) ∧ Fresh W w') := Lib.hid (fun w' hw => ⟨(hbw.fresh hw).cell 0, (hbw.fresh hw).cell 1, (hbw.fresh hw).cell 2, (HROW.out _ (HIL.out.fresh (hfw.trans hw))).2.2.2.1, hw⟩)
              have HIW2 := Lib.hid (HIL.out.fresh hfw)
              clear hbw hfw HIL
              obtain ⟨y0, y1, y2, y3, _⟩ := HSK.out W (Fresh.refl _)
              go_region_held3 (fun w' => w'.cell? ⟨pp, 0, none⟩ = some (.string autN) ∧ w'.cell? ⟨pp, 1, none⟩ = some (.pointer (some ⟨b, 3, none⟩)) ∧ w'.cell? ⟨pp, 2, none⟩ = some (.func (.func 50) #[] #[]) ∧ w'.cell? ⟨b, 3, none⟩ = some (.string ta) ∧ Fresh W w')
                ((refine HSK.out _ ?_; first | with_reducible assumption | with_reducible exact Fresh.drew _))
                (first | (go_at_call 50; (with_reducible refine (HR3.out _).mono ?_); rintro e wa ⟨rfl, hwa⟩; have hga : Fresh W wa := by (rw [hwa]; first | with_reducible assumption | with_reducible exact Fresh.drew _)))
              all_goals
                refine wx_gen (fun W2 => Fresh W W2) (by first | exact hga | exact Fresh.drew _) ?_
                clear y0 y1 y2 y3
                rintro W2 hw2
                have HIX := Lib.hid (HIW2.out.fresh hw2)
                clear hw2
                cases bb3
                · have hE31 : backE l = 31 := by rw [HBE.out, if_neg HNE.out, if_pos (by rw [HRT.out]; simp)]
                  have HE31 := Lib.hid hE31
                  clear hE31
                  have r0 := HIX.out.rs.cell 0
                  have r1 := HIX.out.rs.cell 1
                  have r2 := HIX.out.rs.cell 2
                  have r3 := HIX.out.rs.cell 3
                  have r4 := HIX.out.rs.cell 4
                  have r5 := HIX.out.rs.cell 5
                  have f0 := HIX.out.rs.frozen 0
                  have f1 := HIX.out.rs.frozen 1
                  have f2 := HIX.out.rs.frozen 2
                  have f3 := HIX.out.rs.frozen 3
                  have f4 := HIX.out.rs.frozen 4
                  have f5 := HIX.out.rs.frozen 5
                  unfold zeroR at r0 r1 r2 r3 r4 r5
                  simp at r0 r1 r2 r3 r4 r5
                  go_wp2_with fail
                  refine wx_gen (fun W => Blk W p 25 zeroR ∧ Fresh w W) ⟨by simpa [zeroR] using ((((((HIX.out.rs).set 0 (.string ⟨#[]⟩)).set 1 (.string ⟨#[]⟩)).set 2 (.string ⟨#[]⟩)).set 3 (.string ⟨#[]⟩)).set 4 (.slice none 0 0)).set 5 (.slice none 0 0), ((((((HIX.out.fr.step _ _ HQB2.out.2.2.2.1).step _ _ HQB2.out.2.2.2.1).step _ _ HQB2.out.2.2.2.1).step _ _ HQB2.out.2.2.2.1).step _ _ HQB2.out.2.2.2.1).step _ _ HQB2.out.2.2.2.1)⟩ ?_
                  rintro W9 ⟨hb9, hf9⟩
                  have q0 := hb9.cell 0
                  have q1 := hb9.cell 1
                  have q2 := hb9.cell 2
                  have q3 := hb9.cell 3
                  have q4 := hb9.cell 4
                  have q5 := hb9.cell 5
                  unfold zeroR at q0 q1 q2 q3 q4 q5
                  simp at q0 q1 q2 q3 q4 q5
                  rw [← HQB.out]
                  exact bodyPost_ret (v := .tuple #[.agg #[.string ⟨#[]⟩, .string ⟨#[]⟩, .string ⟨#[]⟩, .string ⟨#[]⟩, .slice none 0 0, .slice none 0 0], .int .i64 31]) (by simp [results, Tryz.results31, go_sem, q0, q1, q2, q3, q4, q5]) rfl (HNO.out W9 31 HE31.out.symm (by decide) hf9)
                go_wp2_with fail
                go_roundw
                case rel => exact ⟨3 + 1, by omega, by first | rfl | go_num, (fun _ => HT.out.1 (by omega)), (fun _ => HT.out.2.1 (by omega)), (fun _ => HT.out.2.2.1 (by omega)), (fun _ => by trivial), HIX.out⟩
                case measure => simp [intOf]
            · rw [show ((4 : Nat) : Int) = 4 from rfl]
              obtain rfl := HT.out.1 (by omega)
              obtain rfl := HT.out.2.1 (by omega)
              obtain rfl := HT.out.2.2.1 (by omega)
              obtain rfl := HT.out.2.2.2 (by omega)
              go_wp2_with fail
              with_reducible refine (HCK.out _ HIL.out.fr).mono ?_
              rintro e w4 ⟨ck2, rfl, hck2, hf⟩
              subst hck2
              have HI4 := Lib.hid (HIL.out.fresh hf)
              clear hf
              by_cases hc0 : ck = 0
              rotate_left
              · have dc : ((ck : Int) != 0) = true := by simp; omega
                have hEC : backE l = ck := by rw [HBE.out, if_neg HNE.out, if_neg (by rw [HRT.out]; simp), HCKE.out, if_pos hc0]
                have HEC := Lib.hid hEC
                have HC0 := Lib.hid hc0
                clear hEC hc0
                have r0 := HI4.out.rs.cell 0
                have r1 := HI4.out.rs.cell 1
                have r2 := HI4.out.rs.cell 2
                have r3 := HI4.out.rs.cell 3
                have r4 := HI4.out.rs.cell 4
                have r5 := HI4.out.rs.cell 5
                have f0 := HI4.out.rs.frozen 0
                have f1 := HI4.out.rs.frozen 1
                have f2 := HI4.out.rs.frozen 2
                have f3 := HI4.out.rs.frozen 3
                have f4 := HI4.out.rs.frozen 4
                have f5 := HI4.out.rs.frozen 5
                unfold zeroR at r0 r1 r2 r3 r4 r5
                simp at r0 r1 r2 r3 r4 r5
                go_wp2_with fail
                refine wx_gen (fun W => Blk W p 25 zeroR ∧ Fresh w W) ⟨by simpa [zeroR] using ((((((HI4.out.rs).set 0 (.string ⟨#[]⟩)).set 1 (.string ⟨#[]⟩)).set 2 (.string ⟨#[]⟩)).set 3 (.string ⟨#[]⟩)).set 4 (.slice none 0 0)).set 5 (.slice none 0 0), ((((((HI4.out.fr.step _ _ HQB2.out.2.2.2.1).step _ _ HQB2.out.2.2.2.1).step _ _ HQB2.out.2.2.2.1).step _ _ HQB2.out.2.2.2.1).step _ _ HQB2.out.2.2.2.1).step _ _ HQB2.out.2.2.2.1)⟩ ?_
                rintro W9 ⟨hb9, hf9⟩
                have q0 := hb9.cell 0
                have q1 := hb9.cell 1
                have q2 := hb9.cell 2
                have q3 := hb9.cell 3
                have q4 := hb9.cell 4
                have q5 := hb9.cell 5
                unfold zeroR at q0 q1 q2 q3 q4 q5
                simp at q0 q1 q2 q3 q4 q5
                rw [← HQB.out]
                exact bodyPost_ret (v := .tuple #[.agg #[.string ⟨#[]⟩, .string ⟨#[]⟩, .string ⟨#[]⟩, .string ⟨#[]⟩, .slice none 0 0, .slice none 0 0], .int .i64 (ck : Int)]) (by simp [results, Tryz.results31, go_sem, q0, q1, q2, q3, q4, q5]) rfl (HNO.out W9 ck HEC.out.symm HC0.out hf9)
              have dc : ((ck : Int) != 0) = false := by rw [hc0]; rfl
              have HBE2 : Hid (backE l = if nvR 4 l = true then 0 else 32) := Lib.hid (by rw [HBE.out, if_neg HNE.out, if_neg (by rw [HRT.out]; simp), HCKE.out, if_neg (by simp [hc0])])
              clear hc0
              go_wp2_with fail
              go_loopw [95] (fun ix wr => ∃ i : Nat, i ≤ 4 ∧ ix = .int .i64 (i : Int) ∧ (∀ (j : Nat) y, j < i → l[j]? = some y → y.2 = (decide (4 ≤ j) && senB y.1.1)) ∧ BkI l w b q p 4 wr) (fun i _ => 4 - (intOf i).toNat)
              case atStart => exact ⟨0, by omega, rfl, (fun j y hj => by omega), HI4.out⟩
              case round =>
                obtain ⟨i, hi, rfl, hal, hI5⟩ := hrel
                have HI5 := Lib.hid hI5
                have HAL := Lib.hid hal
                clear hI5 hal
                by_cases hin : i < 4
                · have hin' : (i : Int) < (4 : Int) := by omega
                  have hin2 : (i : Int) < (4 : Int) := by omega
                  have hiw : IntKind.i64.wrap ((i : Int) + 1) = (i : Int) + 1 := IntWalk.i64_in _ (by omega)
                  obtain ⟨x, hx⟩ : ∃ x, l[i]? = some x := ⟨_, List.getElem?_eq_getElem (by rw [HN.out]; omega)⟩
                  obtain ⟨b9, o9, hbo, hb9, g0, g1, g2⟩ := HM.out.lnAt i x hx
                  injection hbo with hbo
                  injection hbo with hb8 ho8
                  subst hb8 ho8
                  have e0 := (HI5.out.fr.cell (p := ⟨b0, o0 + i * 3, none⟩) hb9).trans g0
                  have e1 := (HI5.out.fr.cell (p := ⟨b0, o0 + i * 3 + 1, none⟩) hb9).trans g1
                  have e2 := (HI5.out.fr.cell (p := ⟨b0, o0 + i * 3 + 2, none⟩) hb9).trans g2
                  have HX := Lib.hid hx
                  obtain ⟨⟨F1, F2⟩, nv⟩ := x
                  simp only at e0 e1 e2
                  have HSN := Lib.hid (fun w => cl_sen F1 w)
                  obtain ⟨sb, hsb⟩ : ∃ sb, senB F1 = sb := ⟨_, rfl⟩
                  rw [hsb] at HSN
                  have HSB := Lib.hid hsb
                  clear hx g0 g1 g2 hb9 hsb
                  have HBAD : Hid (nv ≠ (decide (4 ≤ i) && sb) → backE l = 32) := Lib.hid (fun h => by
                    rw [HBE2.out, if_neg]
                    intro hnv
                    apply h
                    have := nvR_at hnv HX.out
                    simp only at this
                    rw [HSB.out] at this
                    exact this)
                  have HGO : Hid (nv = (decide (4 ≤ i) && sb) → ∀ (j : Nat) y, j < i + 1 → l[j]? = some y → y.2 = (decide (4 ≤ j) && senB y.1.1)) := Lib.hid (fun h j y hj hy => by
                    by_cases e : j = i
                    · subst e
                      have h1 := HX.out
                      rw [hy] at h1
                      cases h1
                      simp only
                      rw [HSB.out]
                      exact h
                    · exact HAL.out j y (by omega) hy)
                  go_upto_region 21 with fail
                  refine wp_gen (fun W => Blk W wr.heap.size 38 #[.string F1, .string F2, .bool nv] ∧ Fresh wr W) ⟨Blk.new wr _ _, Fresh.alloc _ _⟩ ?_
                  rintro W5 ⟨hbw, hfw⟩
                  obtain ⟨yy, hyy⟩ : ∃ y, wr.heap.size = y := ⟨_, rfl⟩
                  rw [hyy] at hbw ⊢
                  clear hyy e0 e1 e2
                  obtain ⟨y0, y1, y2⟩ := hbw.c3
                  have HI6 := Lib.hid (HI5.out.fresh hfw)
                  clear hbw hfw
                  have hsplit : (4 ≤ i ∧ (decide (4 ≤ i)) = true) ∨ (i < 4 ∧ (decide (4 ≤ i)) = false) := by
                    by_cases h : 4 ≤ i
                    · exact .inl ⟨h, decide_eq_true h⟩
                    · exact .inr ⟨by omega, decide_eq_false h⟩
                  rcases hsplit with ⟨h3, h4⟩ | ⟨h3, h4⟩
                  · exfalso; omega
                  · have d1 : decide ((4 : Int) ≤ (i : Int)) = false := decide_eq_false (by omega)
                    rw [h4, Bool.false_and] at HBAD HGO
                    clear h3
                    cases nv
                    all_goals
                      go_quiet ((go_at_call 32; exact Calls.quiet_of_same (HSN.out _)))
                      all_goals
                        refine wx_gen (BkI l w b q p 4) (HI6.out.fresh (Fresh.drewN _ _)) ?_
                        clear y0 y1 y2
                        rintro W7 hI7
                        have HI7 := Lib.hid hI7
                        clear hI7
                        first
                          | (have HGO2 := Lib.hid (HGO.out rfl)
                             go_wp2_with fail
                             go_roundw
                             case rel => exact ⟨i + 1, by omega, by go_num, HGO2.out, HI7.out⟩
                             case measure => simp [intOf]; omega)
                          | (have HE32 := Lib.hid (HBAD.out (by decide))
                             have r0 := HI7.out.rs.cell 0
                             have r1 := HI7.out.rs.cell 1
                             have r2 := HI7.out.rs.cell 2
                             have r3 := HI7.out.rs.cell 3
                             have r4 := HI7.out.rs.cell 4
                             have r5 := HI7.out.rs.cell 5
                             have f0 := HI7.out.rs.frozen 0
                             have f1 := HI7.out.rs.frozen 1
                             have f2 := HI7.out.rs.frozen 2
                             have f3 := HI7.out.rs.frozen 3
                             have f4 := HI7.out.rs.frozen 4
                             have f5 := HI7.out.rs.frozen 5
                             unfold zeroR at r0 r1 r2 r3 r4 r5
                             simp at r0 r1 r2 r3 r4 r5
                             go_wp2_with fail
                             refine wx_gen (fun W => Blk W p 25 zeroR ∧ Fresh w W) ⟨by simpa [zeroR] using ((((((HI7.out.rs).set 0 (.string ⟨#[]⟩)).set 1 (.string ⟨#[]⟩)).set 2 (.string ⟨#[]⟩)).set 3 (.string ⟨#[]⟩)).set 4 (.slice none 0 0)).set 5 (.slice none 0 0), ((((((HI7.out.fr.step _ _ HQB2.out.2.2.2.1).step _ _ HQB2.out.2.2.2.1).step _ _ HQB2.out.2.2.2.1).step _ _ HQB2.out.2.2.2.1).step _ _ HQB2.out.2.2.2.1).step _ _ HQB2.out.2.2.2.1)⟩ ?_
                             rintro W9 ⟨hb9, hf9⟩
                             have q0 := hb9.cell 0
                             have q1 := hb9.cell 1
                             have q2 := hb9.cell 2
                             have q3 := hb9.cell 3
                             have q4 := hb9.cell 4
                             have q5 := hb9.cell 5
                             unfold zeroR at q0 q1 q2 q3 q4 q5
                             simp at q0 q1 q2 q3 q4 q5
                             rw [← HQB.out]
                             exact bodyPost_ret (v := .tuple #[.agg #[.string ⟨#[]⟩, .string ⟨#[]⟩, .string ⟨#[]⟩, .string ⟨#[]⟩, .slice none 0 0, .slice none 0 0], .int .i64 32]) (by simp [results, Tryz.results31, go_sem, q0, q1, q2, q3, q4, q5]) rfl (HNO.out W9 32 HE32.out.symm (by decide) hf9))
                · obtain rfl : i = 4 := by omega
                  have hE0 : backE l = 0 := by
                    rw [HBE2.out, if_pos (nvR_all (fun j y hy => HAL.out j y (by
                      have := (List.getElem?_eq_some_iff.1 hy).1
                      rw [HN.out] at this
                      omega) hy))]
                  have HE0 := Lib.hid hE0
                  clear hE0 hin
                  go_wp2_with fail
                  with_reducible refine (HFD.out _ HI5.out.fr).mono ?_
                  rintro e w6 ⟨P, rfl, hP, hmf, hf⟩
                  have HI6 := Lib.hid (HI5.out.fresh hf)
                  have HP6 := Lib.hid hP
                  have HMF := Lib.hid hmf
                  have HBP : Hid (P ≠ b ∧ P ≠ p) := Lib.hid (by
                    have h1 := HI5.out.row.lt
                    have h2 := HI5.out.rs.lt
                    omega)
                  clear hf hP hmf
                  have z4 := (HROW.out _ HI6.out).2.2.2.2.cell 4
                  have f4 := (HROW.out _ HI6.out).2.2.2.2.frozen 4
                  simp at z4
                  go_upto_region 25 with fail
                  refine wp_gen (fun W => Blk W b 25 #[.string tm, .string ts, .string tp, .string ta, .slice (some ⟨P, 0, none⟩) 0 0, .slice none 0 0] ∧ Blk W p 25 zeroR ∧ Fresh w W ∧ Many fldD 2 W (some ⟨P, 0, none⟩) (tl.map (·.1))) ⟨by simpa using (HROW.out _ HI6.out).2.2.2.2.set 4 (.slice (some ⟨P, 0, none⟩) 0 0), HI6.out.rs.far HQB2.out.2.1 _, HI6.out.fr.step _ _ HQB2.out.2.2.1, by have h0 : Only (fun k => k = b) w6 w6 := Only.of_fresh (Fresh.refl _); exact HMF.out.only (h0.step ⟨b, 4, none⟩ _ (.inl rfl)) (fun b' o' e => by cases e; exact HBP.out.1)⟩ ?_
                  rintro W8 ⟨h81, h82, h83, h84⟩
                  have H82 := Lib.hid h82
                  have H83 := Lib.hid h83
                  have H84 := Lib.hid h84
                  have v0 := h81.cell 0
                  have v1 := h81.cell 1
                  have v2 := h81.cell 2
                  have v3 := h81.cell 3
                  have v4 := h81.cell 4
                  have v5 := h81.cell 5
                  simp at v0 v1 v2 v3 v4 v5
                  clear z4 f4 h81 h82 h83 h84
                  have r0 := H82.out.cell 0
                  have r1 := H82.out.cell 1
                  have r2 := H82.out.cell 2
                  have r3 := H82.out.cell 3
                  have r4 := H82.out.cell 4
                  have r5 := H82.out.cell 5
                  have f0 := H82.out.frozen 0
                  have f1 := H82.out.frozen 1
                  have f2 := H82.out.frozen 2
                  have f3 := H82.out.frozen 3
                  have f4 := H82.out.frozen 4
                  have f5 := H82.out.frozen 5
                  unfold zeroR at r0 r1 r2 r3 r4 r5
                  simp at r0 r1 r2 r3 r4 r5
                  go_wp2_with fail
                  refine wx_gen (fun W => Blk W p 25 #[.string tm, .string ts, .string tp, .string ta, .slice (some ⟨P, 0, none⟩) 0 0, .slice none 0 0] ∧ Fresh w W ∧ Many fldD 2 W (some ⟨P, 0, none⟩) (tl.map (·.1))) ⟨by simpa [zeroR] using ((((((H82.out).set 0 (.string tm)).set 1 (.string ts)).set 2 (.string tp)).set 3 (.string ta)).set 4 (.slice (some ⟨P, 0, none⟩) 0 0)).set 5 (.slice none 0 0), ((((((H83.out.step _ _ HQB2.out.2.2.2.1).step _ _ HQB2.out.2.2.2.1).step _ _ HQB2.out.2.2.2.1).step _ _ HQB2.out.2.2.2.1).step _ _ HQB2.out.2.2.2.1).step _ _ HQB2.out.2.2.2.1), by have h0 : Only (fun k => k = p) W8 W8 := Only.of_fresh (Fresh.refl _); exact H84.out.only ((((((h0.step ⟨p, 0, none⟩ _ (.inl rfl)).step ⟨p, 1, none⟩ _ (.inl rfl)).step ⟨p, 2, none⟩ _ (.inl rfl)).step ⟨p, 3, none⟩ _ (.inl rfl)).step ⟨p, 4, none⟩ _ (.inl rfl)).step ⟨p, 5, none⟩ _ (.inl rfl)) (fun b' o' e => by cases e; exact HBP.out.2)⟩ ?_
                  rintro W9 ⟨hb9, hf9, hm9⟩
                  have q0 := hb9.cell 0
                  have q1 := hb9.cell 1
                  have q2 := hb9.cell 2
                  have q3 := hb9.cell 3
                  have q4 := hb9.cell 4
                  have q5 := hb9.cell 5
                  simp at q0 q1 q2 q3 q4 q5
                  rw [← HQB.out]
                  exact bodyPost_ret (v := .tuple #[.agg #[.string tm, .string ts, .string tp, .string ta, .slice (some ⟨P, 0, none⟩) 0 0, .slice none 0 0], .int .i64 0]) (by simp [results, Tryz.results31, go_sem, q0, q1, q2, q3, q4, q5]) rfl (HFIN.out _ W9 HE0.out hm9 hf9)
        obtain ⟨m, rfl⟩ : ∃ m, n = m + 4 := ⟨n - 4, by omega⟩
        have x1 : (c0 ≤ 4) = False := by simp; omega
        have x2 : (c0 - 4 = 0) = False := by simp; omega
        obtain ⟨tl, htl⟩ : ∃ tl, l.drop 4 = tl := ⟨_, rfl⟩
        have HTLN : Hid (tl.length = m) := Lib.hid (by have h := HN.out; rw [← htl, List.length_drop]; omega)
        have hmtl : Many lnD 3 w (some ⟨b0, o0 + 12, none⟩) tl := by rw [← htl]; exact many_dropL HM.out 4
        have hstl : ∀ x ∈ tl, x.1.2.size ≤ 1000000 := fun x hx => (HS.out x (by rw [← htl] at hx; exact List.mem_of_mem_drop hx)).2
        obtain ⟨ps, hps⟩ : ∃ ps, psB tl = ps := ⟨_, rfl⟩
        obtain ⟨ck, hck⟩ : ∃ ck, chkR tl = ck := ⟨_, rfl⟩
        have HPS := Lib.hid (fun W (h : Fresh w W) => rq_pseudo (some ⟨b0, o0 + 12, none⟩) (c0 - 4) tl W (hmtl.fresh h) (by rw [HTLN.out]; omega) ps hps)
        have HCK := Lib.hid (fun W (h : Fresh w W) => cl_check (some ⟨b0, o0 + 12, none⟩) (c0 - 4) tl W (hmtl.fresh h) (by rw [HTLN.out]; omega) hstl)
        have HFD := Lib.hid (fun W (h : Fresh w W) => de_fields (some ⟨b0, o0 + 12, none⟩) (c0 - 4) tl W (hmtl.fresh h) (by rw [HTLN.out]; omega))
        unfold ChkP at HCK
        unfold FldsP at HFD
        rw [HTLN.out] at HPS HCK HFD
        rw [hck] at HCK
        obtain ⟨tm, htm⟩ : ∃ t, txtR l 4 0 = t := ⟨_, rfl⟩
        obtain ⟨ts, hts⟩ : ∃ t, txtR l 4 1 = t := ⟨_, rfl⟩
        obtain ⟨tp, htp⟩ : ∃ t, txtR l 4 2 = t := ⟨_, rfl⟩
        obtain ⟨ta, hta⟩ : ∃ t, txtR l 4 3 = t := ⟨_, rfl⟩
        have z0 := txtR_size (n := 4) (k := 0) (fun x hx => (HS.out x hx).2)
        have z2 := txtR_size (n := 4) (k := 2) (fun x hx => (HS.out x hx).2)
        have z3 := txtR_size (n := 4) (k := 3) (fun x hx => (HS.out x hx).2)
        rw [htm] at z0
        rw [htp] at z2
        rw [hta] at z3
        have HR0 := Lib.hid (fun w => rq_method tm w (by omega))
        have HR1 := Lib.hid (fun w => rq_scheme ts w)
        have HR2 := Lib.hid (fun w => rq_path tp w (by omega))
        have HR3 := Lib.hid (fun w => rq_visible ta w (by omega))
        obtain ⟨bb0, hb0'⟩ : ∃ b, mthB tm.data.toList = b := ⟨_, rfl⟩
        obtain ⟨bb1, hb1'⟩ : ∃ b, schB ts = b := ⟨_, rfl⟩
        obtain ⟨bb2, hb2'⟩ : ∃ b, pthB tp = b := ⟨_, rfl⟩
        obtain ⟨bb3, hb3'⟩ : ∃ b, visB ta.data.toList = b := ⟨_, rfl⟩
        have HRT : Hid (rightR tm ts tp ta = (bb0 && (bb1 && (bb2 && bb3)))) := Lib.hid (by unfold rightR; rw [hb0', hb1', hb2', hb3'])
        rw [hb0'] at HR0
        rw [hb1'] at HR1
        rw [hb2'] at HR2
        rw [hb3'] at HR3
        have HROW : Hid (∀ W, BkI l w b q p 4 W → W.cell? ⟨b, 0, none⟩ = some (.string tm) ∧ W.cell? ⟨b, 1, none⟩ = some (.string ts) ∧ W.cell? ⟨b, 2, none⟩ = some (.string tp) ∧ W.cell? ⟨b, 3, none⟩ = some (.string ta) ∧ Blk W b 25 #[.string tm, .string ts, .string tp, .string ta, .slice none 0 0, .slice none 0 0]) := Lib.hid (fun W h => by
          have hr := h.row
          unfold arrB at hr
          rw [htm, hts, htp, hta] at hr
          exact ⟨hr.cell 0, hr.cell 1, hr.cell 2, hr.cell 3, hr⟩)
        have HBE : Hid (backE l = if (4 = 4 ∧ ta.data.toList = []) ∨ psB tl = true then 32 else if rightR tm ts tp ta = false then 31 else if chkR tl ≠ 0 then chkR tl else if nvR 4 l = true then 0 else 32) := Lib.hid (by unfold backE; rw [hmm, htm, hts, htp, hta, htl, if_neg (by omega)])
        have HPSE := Lib.hid hps
        have HCKE := Lib.hid hck
        have HFIN : Hid (∀ (A : Option Addr) W, backE l = 0 → Many fldD 2 W A (tl.map (·.1)) → Fresh w W → PP (.returned (.tuple #[.agg #[.string tm, .string ts, .string tp, .string ta, .slice A m m, .slice none 0 0], .int .i64 0])) W) := Lib.hid (fun A W h0 hm hf => HYES.out W tm ts tp ta A m h0.symm (by rw [hmm]; exact ⟨htm.symm, hts.symm, htp.symm, hta.symm, by rw [htl, HTLN.out], by rw [htl]; exact hm⟩) hf)
        clear hmtl hstl hps hck htm hts htp hta z0 z2 z3 hb0' hb1' hb2' hb3' htl
        obtain ⟨_, _, _, t3, _⟩ := HROW.out W HIW.out
        have HTD : Hid (ta.toList = ta.data.toList) := Lib.hid (Lib.toList_data ta)
        by_cases hae : ta.data.toList = []
        · have m1 : ta.toList.isEmpty = true := by rw [HTD.out, hae]; rfl
          have hE32 : backE l = 32 := by rw [HBE.out, if_pos (.inl ⟨rfl, hae⟩)]
          have HE32 := Lib.hid hE32
          clear hE32 hae
          have r0 := HIW.out.rs.cell 0
          have r1 := HIW.out.rs.cell 1
          have r2 := HIW.out.rs.cell 2
          have r3 := HIW.out.rs.cell 3
          have r4 := HIW.out.rs.cell 4
          have r5 := HIW.out.rs.cell 5
          have f0 := HIW.out.rs.frozen 0
          have f1 := HIW.out.rs.frozen 1
          have f2 := HIW.out.rs.frozen 2
          have f3 := HIW.out.rs.frozen 3
          have f4 := HIW.out.rs.frozen 4
          have f5 := HIW.out.rs.frozen 5
          unfold zeroR at r0 r1 r2 r3 r4 r5
          simp at r0 r1 r2 r3 r4 r5
          go_wp2_with fail
          refine wx_gen (fun W => Blk W p 25 zeroR ∧ Fresh w W) ⟨by simpa [zeroR] using ((((((HIW.out.rs).set 0 (.string ⟨#[]⟩)).set 1 (.string ⟨#[]⟩)).set 2 (.string ⟨#[]⟩)).set 3 (.string ⟨#[]⟩)).set 4 (.slice none 0 0)).set 5 (.slice none 0 0), ((((((HIW.out.fr.step _ _ HQB2.out.2.2.2.1).step _ _ HQB2.out.2.2.2.1).step _ _ HQB2.out.2.2.2.1).step _ _ HQB2.out.2.2.2.1).step _ _ HQB2.out.2.2.2.1).step _ _ HQB2.out.2.2.2.1)⟩ ?_
          rintro W9 ⟨hb9, hf9⟩
          have q0 := hb9.cell 0
          have q1 := hb9.cell 1
          have q2 := hb9.cell 2
          have q3 := hb9.cell 3
          have q4 := hb9.cell 4
          have q5 := hb9.cell 5
          unfold zeroR at q0 q1 q2 q3 q4 q5
          simp at q0 q1 q2 q3 q4 q5
          rw [← HQB.out]
          exact bodyPost_ret (v := .tuple #[.agg #[.string ⟨#[]⟩, .string ⟨#[]⟩, .string ⟨#[]⟩, .string ⟨#[]⟩, .slice none 0 0, .slice none 0 0], .int .i64 32]) (by simp [results, Tryz.results31, go_sem, q0, q1, q2, q3, q4, q5]) rfl (HNO.out W9 32 HE32.out.symm (by decide) hf9)
        have m1 : ta.toList.isEmpty = false := by
          rw [HTD.out]
          cases h : ta.data.toList with
          | nil => exact absurd h hae
          | cons x t => rfl
        have HAE := Lib.hid hae
        clear hae
        go_wp2_with fail
        with_reducible refine (HPS.out _ HIW.out.fr).mono ?_
        rintro e w3 ⟨rfl, hf⟩
        have HI3 := Lib.hid (HIW.out.fresh hf)
        clear hf t3
        cases ps
        rotate_left
        · have hE32 : backE l = 32 := by rw [HBE.out, if_pos (.inr HPSE.out)]
          have HE32 := Lib.hid hE32
          clear hE32
          have r0 := HI3.out.rs.cell 0
          have r1 := HI3.out.rs.cell 1
          have r2 := HI3.out.rs.cell 2
          have r3 := HI3.out.rs.cell 3
          have r4 := HI3.out.rs.cell 4
          have r5 := HI3.out.rs.cell 5
          have f0 := HI3.out.rs.frozen 0
          have f1 := HI3.out.rs.frozen 1
          have f2 := HI3.out.rs.frozen 2
          have f3 := HI3.out.rs.frozen 3
          have f4 := HI3.out.rs.frozen 4
          have f5 := HI3.out.rs.frozen 5
          unfold zeroR at r0 r1 r2 r3 r4 r5
          simp at r0 r1 r2 r3 r4 r5
          go_wp2_with fail
          refine wx_gen (fun W => Blk W p 25 zeroR ∧ Fresh w W) ⟨by simpa [zeroR] using ((((((HI3.out.rs).set 0 (.string ⟨#[]⟩)).set 1 (.string ⟨#[]⟩)).set 2 (.string ⟨#[]⟩)).set 3 (.string ⟨#[]⟩)).set 4 (.slice none 0 0)).set 5 (.slice none 0 0), ((((((HI3.out.fr.step _ _ HQB2.out.2.2.2.1).step _ _ HQB2.out.2.2.2.1).step _ _ HQB2.out.2.2.2.1).step _ _ HQB2.out.2.2.2.1).step _ _ HQB2.out.2.2.2.1).step _ _ HQB2.out.2.2.2.1)⟩ ?_
          rintro W9 ⟨hb9, hf9⟩
          have q0 := hb9.cell 0
          have q1 := hb9.cell 1
          have q2 := hb9.cell 2
          have q3 := hb9.cell 3
          have q4 := hb9.cell 4
          have q5 := hb9.cell 5
          unfold zeroR at q0 q1 q2 q3 q4 q5
          simp at q0 q1 q2 q3 q4 q5
          rw [← HQB.out]
          exact bodyPost_ret (v := .tuple #[.agg #[.string ⟨#[]⟩, .string ⟨#[]⟩, .string ⟨#[]⟩, .string ⟨#[]⟩, .slice none 0 0, .slice none 0 0], .int .i64 32]) (by simp [results, Tryz.results31, go_sem, q0, q1, q2, q3, q4, q5]) rfl (HNO.out W9 32 HE32.out.symm (by decide) hf9)
        have HNE : Hid (¬ ((4 = 4 ∧ ta.data.toList = []) ∨ psB tl = true)) := Lib.hid (fun h => by rcases h with h | h; exact HAE.out h.2; rw [HPSE.out] at h; cases h)
        go_wp2_with fail
        go_loopw [71] (fun ix wr => ∃ k : Nat, k ≤ 4 ∧ ix = .int .i64 (k : Int) ∧ (0 < k → bb0 = true) ∧ (1 < k → bb1 = true) ∧ (2 < k → bb2 = true) ∧ (3 < k → bb3 = true) ∧ BkI l w b q p 4 wr) (fun i _ => 4 - (intOf i).toNat)
        case atStart => exact ⟨0, by omega, rfl, (fun h => by omega), (fun h => by omega), (fun h => by omega), (fun h => by omega), HI3.out⟩
        case round =>
          obtain ⟨k, hk, rfl, ht0, ht1, ht2, ht3, hIL⟩ := hrel
          have HIL := Lib.hid hIL
          have HT := Lib.hid (And.intro ht0 (And.intro ht1 (And.intro ht2 ht3)))
          clear hIL ht0 ht1 ht2 ht3
          rcases (show k = 0 ∨ k = 1 ∨ k = 2 ∨ k = 3 ∨ k = 4 by omega) with rfl | rfl | rfl | rfl | rfl
          · rw [show ((0 : Nat) : Int) = 0 from rfl]
            have hqk := HIL.out.pl
            have e0 := hqk.cell 0
            have e1 := hqk.cell 1
            have e2 := hqk.cell 2
            unfold plcA at e0 e1 e2
            simp at e0 e1 e2
            clear hqk
            go_upto_region 12 with fail
            refine wp_gen (fun W => Blk W wr.heap.size 72 #[.string mthN, .pointer (some ⟨b, 0, none⟩), .func (.func 47) #[] #[]] ∧ Fresh wr W) ⟨Blk.new wr _ _, Fresh.alloc _ _⟩ ?_
            rintro W ⟨hbw, hfw⟩
            obtain ⟨pp, hpp⟩ : ∃ p, wr.heap.size = p := ⟨_, rfl⟩
            rw [hpp] at hbw ⊢
            clear hpp e0 e1 e2
            have HSK : Hid (∀ w', Fresh W w' → w'.cell? ⟨pp, 0, none⟩ = some (.string mthN) ∧ w'.cell? ⟨pp, 1, none⟩ = some (.pointer (some ⟨b, 0, none⟩)) ∧ w'.cell? ⟨pp, 2, none⟩ = some (.func (.func 47) #[] #[]) ∧ w'.cell? ⟨b, 0, none⟩ = some (.string tm) ∧ Fresh W w') := Lib.hid (fun w' hw => ⟨(hbw.fresh hw).cell 0, (hbw.fresh hw).cell 1, (hbw.fresh hw).cell 2, (HROW.out _ (HIL.out.fresh (hfw.trans hw))).1, hw⟩)
            have HIW2 := Lib.hid (HIL.out.fresh hfw)
            clear hbw hfw HIL
            obtain ⟨y0, y1, y2, y3, _⟩ := HSK.out W (Fresh.refl _)
            go_region_held3 (fun w' => w'.cell? ⟨pp, 0, none⟩ = some (.string mthN) ∧ w'.cell? ⟨pp, 1, none⟩ = some (.pointer (some ⟨b, 0, none⟩)) ∧ w'.cell? ⟨pp, 2, none⟩ = some (.func (.func 47) #[] #[]) ∧ w'.cell? ⟨b, 0, none⟩ = some (.string tm) ∧ Fresh W w')
              ((refine HSK.out _ ?_; first | with_reducible assumption | with_reducible exact Fresh.drew _))
              (first | (go_at_call 47; (with_reducible refine (HR0.out _).mono ?_); rintro e wa ⟨rfl, hwa⟩; have hga : Fresh W wa := by (rw [hwa]; first | with_reducible assumption | with_reducible exact Fresh.drew _)))
            all_goals
              refine wx_gen (fun W2 => Fresh W W2) (by first | exact hga | exact Fresh.drew _) ?_
              clear y0 y1 y2 y3
              rintro W2 hw2
              have HIX := Lib.hid (HIW2.out.fresh hw2)
              clear hw2
              cases bb0
              · have hE31 : backE l = 31 := by rw [HBE.out, if_neg HNE.out, if_pos (by rw [HRT.out]; simp)]
                have HE31 := Lib.hid hE31
                clear hE31
                have r0 := HIX.out.rs.cell 0
                have r1 := HIX.out.rs.cell 1
                have r2 := HIX.out.rs.cell 2
                have r3 := HIX.out.rs.cell 3
                have r4 := HIX.out.rs.cell 4
                have r5 := HIX.out.rs.cell 5
                have f0 := HIX.out.rs.frozen 0
                have f1 := HIX.out.rs.frozen 1
                have f2 := HIX.out.rs.frozen 2
                have f3 := HIX.out.rs.frozen 3
                have f4 := HIX.out.rs.frozen 4
                have f5 := HIX.out.rs.frozen 5
                unfold zeroR at r0 r1 r2 r3 r4 r5
                simp at r0 r1 r2 r3 r4 r5
                go_wp2_with fail
                refine wx_gen (fun W => Blk W p 25 zeroR ∧ Fresh w W) ⟨by simpa [zeroR] using ((((((HIX.out.rs).set 0 (.string ⟨#[]⟩)).set 1 (.string ⟨#[]⟩)).set 2 (.string ⟨#[]⟩)).set 3 (.string ⟨#[]⟩)).set 4 (.slice none 0 0)).set 5 (.slice none 0 0), ((((((HIX.out.fr.step _ _ HQB2.out.2.2.2.1).step _ _ HQB2.out.2.2.2.1).step _ _ HQB2.out.2.2.2.1).step _ _ HQB2.out.2.2.2.1).step _ _ HQB2.out.2.2.2.1).step _ _ HQB2.out.2.2.2.1)⟩ ?_
                rintro W9 ⟨hb9, hf9⟩
                have q0 := hb9.cell 0
                have q1 := hb9.cell 1
                have q2 := hb9.cell 2
                have q3 := hb9.cell 3
                have q4 := hb9.cell 4
                have q5 := hb9.cell 5
                unfold zeroR at q0 q1 q2 q3 q4 q5
                simp at q0 q1 q2 q3 q4 q5
                rw [← HQB.out]
                exact bodyPost_ret (v := .tuple #[.agg #[.string ⟨#[]⟩, .string ⟨#[]⟩, .string ⟨#[]⟩, .string ⟨#[]⟩, .slice none 0 0, .slice none 0 0], .int .i64 31]) (by simp [results, Tryz.results31, go_sem, q0, q1, q2, q3, q4, q5]) rfl (HNO.out W9 31 HE31.out.symm (by decide) hf9)
              go_wp2_with fail
              go_roundw
              case rel => exact ⟨0 + 1, by omega, by first | rfl | go_num, (fun _ => by trivial), (fun h => absurd h (by omega)), (fun h => absurd h (by omega)), (fun h => absurd h (by omega)), HIX.out⟩
              case measure => simp [intOf]
          · rw [show ((1 : Nat) : Int) = 1 from rfl]
            have hqk := HIL.out.pl
            have e0 := hqk.cell 3
            have e1 := hqk.cell 4
            have e2 := hqk.cell 5
            unfold plcA at e0 e1 e2
            simp at e0 e1 e2
            clear hqk
            go_upto_region 12 with fail
            refine wp_gen (fun W => Blk W wr.heap.size 72 #[.string schN, .pointer (some ⟨b, 1, none⟩), .func (.func 48) #[] #[]] ∧ Fresh wr W) ⟨Blk.new wr _ _, Fresh.alloc _ _⟩ ?_
            rintro W ⟨hbw, hfw⟩
            obtain ⟨pp, hpp⟩ : ∃ p, wr.heap.size = p := ⟨_, rfl⟩
            rw [hpp] at hbw ⊢
            clear hpp e0 e1 e2
            have HSK : Hid (∀ w', Fresh W w' → w'.cell? ⟨pp, 0, none⟩ = some (.string schN) ∧ w'.cell? ⟨pp, 1, none⟩ = some (.pointer (some ⟨b, 1, none⟩)) ∧ w'.cell? ⟨pp, 2, none⟩ = some (.func (.func 48) #[] #[]) ∧ w'.cell? ⟨b, 1, none⟩ = some (.string ts) ∧ Fresh W w') := Lib.hid (fun w' hw => ⟨(hbw.fresh hw).cell 0, (hbw.fresh hw).cell 1, (hbw.fresh hw).cell 2, (HROW.out _ (HIL.out.fresh (hfw.trans hw))).2.1, hw⟩)
            have HIW2 := Lib.hid (HIL.out.fresh hfw)
            clear hbw hfw HIL
            obtain ⟨y0, y1, y2, y3, _⟩ := HSK.out W (Fresh.refl _)
            go_region_held3 (fun w' => w'.cell? ⟨pp, 0, none⟩ = some (.string schN) ∧ w'.cell? ⟨pp, 1, none⟩ = some (.pointer (some ⟨b, 1, none⟩)) ∧ w'.cell? ⟨pp, 2, none⟩ = some (.func (.func 48) #[] #[]) ∧ w'.cell? ⟨b, 1, none⟩ = some (.string ts) ∧ Fresh W w')
              ((refine HSK.out _ ?_; first | with_reducible assumption | with_reducible exact Fresh.drew _))
              (first | (go_at_call 48; (with_reducible refine (HR1.out _).mono ?_); rintro e wa ⟨rfl, hwa⟩; have hga : Fresh W wa := by (rw [hwa]; first | with_reducible assumption | with_reducible exact Fresh.drew _)))
            all_goals
              refine wx_gen (fun W2 => Fresh W W2) (by first | exact hga | exact Fresh.drew _) ?_
              clear y0 y1 y2 y3
              rintro W2 hw2
              have HIX := Lib.hid (HIW2.out.fresh hw2)
              clear hw2
              cases bb1
              · have hE31 : backE l = 31 := by rw [HBE.out, if_neg HNE.out, if_pos (by rw [HRT.out]; simp)]
                have HE31 := Lib.hid hE31
                clear hE31
                have r0 := HIX.out.rs.cell 0
                have r1 := HIX.out.rs.cell 1
                have r2 := HIX.out.rs.cell 2
                have r3 := HIX.out.rs.cell 3
                have r4 := HIX.out.rs.cell 4
                have r5 := HIX.out.rs.cell 5
                have f0 := HIX.out.rs.frozen 0
                have f1 := HIX.out.rs.frozen 1
                have f2 := HIX.out.rs.frozen 2
                have f3 := HIX.out.rs.frozen 3
                have f4 := HIX.out.rs.frozen 4
                have f5 := HIX.out.rs.frozen 5
                unfold zeroR at r0 r1 r2 r3 r4 r5
                simp at r0 r1 r2 r3 r4 r5
                go_wp2_with fail
                refine wx_gen (fun W => Blk W p 25 zeroR ∧ Fresh w W) ⟨by simpa [zeroR] using ((((((HIX.out.rs).set 0 (.string ⟨#[]⟩)).set 1 (.string ⟨#[]⟩)).set 2 (.string ⟨#[]⟩)).set 3 (.string ⟨#[]⟩)).set 4 (.slice none 0 0)).set 5 (.slice none 0 0), ((((((HIX.out.fr.step _ _ HQB2.out.2.2.2.1).step _ _ HQB2.out.2.2.2.1).step _ _ HQB2.out.2.2.2.1).step _ _ HQB2.out.2.2.2.1).step _ _ HQB2.out.2.2.2.1).step _ _ HQB2.out.2.2.2.1)⟩ ?_
                rintro W9 ⟨hb9, hf9⟩
                have q0 := hb9.cell 0
                have q1 := hb9.cell 1
                have q2 := hb9.cell 2
                have q3 := hb9.cell 3
                have q4 := hb9.cell 4
                have q5 := hb9.cell 5
                unfold zeroR at q0 q1 q2 q3 q4 q5
                simp at q0 q1 q2 q3 q4 q5
                rw [← HQB.out]
                exact bodyPost_ret (v := .tuple #[.agg #[.string ⟨#[]⟩, .string ⟨#[]⟩, .string ⟨#[]⟩, .string ⟨#[]⟩, .slice none 0 0, .slice none 0 0], .int .i64 31]) (by simp [results, Tryz.results31, go_sem, q0, q1, q2, q3, q4, q5]) rfl (HNO.out W9 31 HE31.out.symm (by decide) hf9)
              go_wp2_with fail
              go_roundw
              case rel => exact ⟨1 + 1, by omega, by first | rfl | go_num, (fun _ => HT.out.1 (by omega)), (fun _ => by trivial), (fun h => absurd h (by omega)), (fun h => absurd h (by omega)), HIX.out⟩
              case measure => simp [intOf]
          · rw [show ((2 : Nat) : Int) = 2 from rfl]
            have hqk := HIL.out.pl
            have e0 := hqk.cell 6
            have e1 := hqk.cell 7
            have e2 := hqk.cell 8
            unfold plcA at e0 e1 e2
            simp at e0 e1 e2
            clear hqk
            go_upto_region 12 with fail
            refine wp_gen (fun W => Blk W wr.heap.size 72 #[.string pthN, .pointer (some ⟨b, 2, none⟩), .func (.func 49) #[] #[]] ∧ Fresh wr W) ⟨Blk.new wr _ _, Fresh.alloc _ _⟩ ?_
            rintro W ⟨hbw, hfw⟩
            obtain ⟨pp, hpp⟩ : ∃ p, wr.heap.size = p := ⟨_, rfl⟩
            rw [hpp] at hbw ⊢
            clear hpp e0 e1 e2
            have HSK : Hid (∀ w', Fresh W w' → w'.cell? ⟨pp, 0, none⟩ = some (.string pthN) ∧ w'.cell? ⟨pp, 1, none⟩ = some (.pointer (some ⟨b, 2, none⟩)) ∧ w'.cell? ⟨pp, 2, none⟩ = some (.func (.func 49) #[] #[]) ∧ w'.cell? ⟨b, 2, none⟩ = some (.string tp) ∧ Fresh W w') := Lib.hid (fun w' hw => ⟨(hbw.fresh hw).cell 0, (hbw.fresh hw).cell 1, (hbw.fresh hw).cell 2, (HROW.out _ (HIL.out.fresh (hfw.trans hw))).2.2.1, hw⟩)
            have HIW2 := Lib.hid (HIL.out.fresh hfw)
            clear hbw hfw HIL
            obtain ⟨y0, y1, y2, y3, _⟩ := HSK.out W (Fresh.refl _)
            go_region_held3 (fun w' => w'.cell? ⟨pp, 0, none⟩ = some (.string pthN) ∧ w'.cell? ⟨pp, 1, none⟩ = some (.pointer (some ⟨b, 2, none⟩)) ∧ w'.cell? ⟨pp, 2, none⟩ = some (.func (.func 49) #[] #[]) ∧ w'.cell? ⟨b, 2, none⟩ = some (.string tp) ∧ Fresh W w')
              ((refine HSK.out _ ?_; first | with_reducible assumption | with_reducible exact Fresh.drew _))
              (first | (go_at_call 49; (with_reducible refine (HR2.out _).mono ?_); rintro e wa ⟨rfl, hwa⟩; have hga : Fresh W wa := by (rw [hwa]; first | with_reducible assumption | with_reducible exact Fresh.drew _)))
            all_goals
              refine wx_gen (fun W2 => Fresh W W2) (by first | exact hga | exact Fresh.drew _) ?_
              clear y0 y1 y2 y3
              rintro W2 hw2
              have HIX := Lib.hid (HIW2.out.fresh hw2)
              clear hw2
              cases bb2
              · have hE31 : backE l = 31 := by rw [HBE.out, if_neg HNE.out, if_pos (by rw [HRT.out]; simp)]
                have HE31 := Lib.hid hE31
                clear hE31
                have r0 := HIX.out.rs.cell 0
                have r1 := HIX.out.rs.cell 1
                have r2 := HIX.out.rs.cell 2
                have r3 := HIX.out.rs.cell 3
                have r4 := HIX.out.rs.cell 4
                have r5 := HIX.out.rs.cell 5
                have f0 := HIX.out.rs.frozen 0
                have f1 := HIX.out.rs.frozen 1
                have f2 := HIX.out.rs.frozen 2
                have f3 := HIX.out.rs.frozen 3
                have f4 := HIX.out.rs.frozen 4
                have f5 := HIX.out.rs.frozen 5
                unfold zeroR at r0 r1 r2 r3 r4 r5
                simp at r0 r1 r2 r3 r4 r5
                go_wp2_with fail
                refine wx_gen (fun W => Blk W p 25 zeroR ∧ Fresh w W) ⟨by simpa [zeroR] using ((((((HIX.out.rs).set 0 (.string ⟨#[]⟩)).set 1 (.string ⟨#[]⟩)).set 2 (.string ⟨#[]⟩)).set 3 (.string ⟨#[]⟩)).set 4 (.slice none 0 0)).set 5 (.slice none 0 0), ((((((HIX.out.fr.step _ _ HQB2.out.2.2.2.1).step _ _ HQB2.out.2.2.2.1).step _ _ HQB2.out.2.2.2.1).step _ _ HQB2.out.2.2.2.1).step _ _ HQB2.out.2.2.2.1).step _ _ HQB2.out.2.2.2.1)⟩ ?_
                rintro W9 ⟨hb9, hf9⟩
                have q0 := hb9.cell 0
                have q1 := hb9.cell 1
                have q2 := hb9.cell 2
                have q3 := hb9.cell 3
                have q4 := hb9.cell 4
                have q5 := hb9.cell 5
                unfold zeroR at q0 q1 q2 q3 q4 q5
                simp at q0 q1 q2 q3 q4 q5
                rw [← HQB.out]
                exact bodyPost_ret (v := .tuple #[.agg #[.string ⟨#[]⟩, .string ⟨#[]⟩, .string ⟨#[]⟩, .string ⟨#[]⟩, .slice none 0 0, .slice none 0 0], .int .i64 31]) (by simp [results, Tryz.results31, go_sem, q0, q1, q2, q3, q4, q5]) rfl (HNO.out W9 31 HE31.out.symm (by decide) hf9)
              go_wp2_with fail
              go_roundw
              case rel => exact ⟨2 + 1, by omega, by first | rfl | go_num, (fun _ => HT.out.1 (by omega)), (fun _ => HT.out.2.1 (by omega)), (fun _ => by trivial), (fun h => absurd h (by omega)), HIX.out⟩
              case measure => simp [intOf]
          · rw [show ((3 : Nat) : Int) = 3 from rfl]
            have hqk := HIL.out.pl
            have e0 := hqk.cell 9
            have e1 := hqk.cell 10
            have e2 := hqk.cell 11
            unfold plcA at e0 e1 e2
            simp at e0 e1 e2
            clear hqk
            go_upto_region 12 with fail
            refine wp_gen (fun W => Blk W wr.heap.size 72 #[.string autN, .pointer (some ⟨b, 3, none⟩), .func (.func 50) #[] #[]] ∧ Fresh wr W) ⟨Blk.new wr _ _, Fresh.alloc _ _⟩ ?_
            rintro W ⟨hbw, hfw⟩
            obtain ⟨pp, hpp⟩ : ∃ p, wr.heap.size = p := ⟨_, rfl⟩
            rw [hpp] at hbw ⊢
            clear hpp e0 e1 e2
            have HSK : Hid (∀ w', Fresh W w' → w'.cell? ⟨pp, 0, none⟩ = some (.string autN) ∧ w'.cell? ⟨pp, 1, none⟩ = some (.pointer (some ⟨b, 3, none⟩)) ∧ w'.cell? ⟨pp, 2, none⟩ = some (.func (.func 50) #[] #[]) ∧ w'.cell? ⟨b, 3, none⟩ = some (.string ta) ∧ Fresh W w') := Lib.hid (fun w' hw => ⟨(hbw.fresh hw).cell 0, (hbw.fresh hw).cell 1, (hbw.fresh hw).cell 2, (HROW.out _ (HIL.out.fresh (hfw.trans hw))).2.2.2.1, hw⟩)
            have HIW2 := Lib.hid (HIL.out.fresh hfw)
            clear hbw hfw HIL
            obtain ⟨y0, y1, y2, y3, _⟩ := HSK.out W (Fresh.refl _)
            go_region_held3 (fun w' => w'.cell? ⟨pp, 0, none⟩ = some (.string autN) ∧ w'.cell? ⟨pp, 1, none⟩ = some (.pointer (some ⟨b, 3, none⟩)) ∧ w'.cell? ⟨pp, 2, none⟩ = some (.func (.func 50) #[] #[]) ∧ w'.cell? ⟨b, 3, none⟩ = some (.string ta) ∧ Fresh W w')
              ((refine HSK.out _ ?_; first | with_reducible assumption | with_reducible exact Fresh.drew _))
              (first | (go_at_call 50; (with_reducible refine (HR3.out _).mono ?_); rintro e wa ⟨rfl, hwa⟩; have hga : Fresh W wa := by (rw [hwa]; first | with_reducible assumption | with_reducible exact Fresh.drew _)))
            all_goals
              refine wx_gen (fun W2 => Fresh W W2) (by first | exact hga | exact Fresh.drew _) ?_
              clear y0 y1 y2 y3
              rintro W2 hw2
              have HIX := Lib.hid (HIW2.out.fresh hw2)
              clear hw2
              cases bb3
              · have hE31 : backE l = 31 := by rw [HBE.out, if_neg HNE.out, if_pos (by rw [HRT.out]; simp)]
                have HE31 := Lib.hid hE31
                clear hE31
                have r0 := HIX.out.rs.cell 0
                have r1 := HIX.out.rs.cell 1
                have r2 := HIX.out.rs.cell 2
                have r3 := HIX.out.rs.cell 3
                have r4 := HIX.out.rs.cell 4
                have r5 := HIX.out.rs.cell 5
                have f0 := HIX.out.rs.frozen 0
                have f1 := HIX.out.rs.frozen 1
                have f2 := HIX.out.rs.frozen 2
                have f3 := HIX.out.rs.frozen 3
                have f4 := HIX.out.rs.frozen 4
                have f5 := HIX.out.rs.frozen 5
                unfold zeroR at r0 r1 r2 r3 r4 r5
                simp at r0 r1 r2 r3 r4 r5
                go_wp2_with fail
                refine wx_gen (fun W => Blk W p 25 zeroR ∧ Fresh w W) ⟨by simpa [zeroR] using ((((((HIX.out.rs).set 0 (.string ⟨#[]⟩)).set 1 (.string ⟨#[]⟩)).set 2 (.string ⟨#[]⟩)).set 3 (.string ⟨#[]⟩)).set 4 (.slice none 0 0)).set 5 (.slice none 0 0), ((((((HIX.out.fr.step _ _ HQB2.out.2.2.2.1).step _ _ HQB2.out.2.2.2.1).step _ _ HQB2.out.2.2.2.1).step _ _ HQB2.out.2.2.2.1).step _ _ HQB2.out.2.2.2.1).step _ _ HQB2.out.2.2.2.1)⟩ ?_
                rintro W9 ⟨hb9, hf9⟩
                have q0 := hb9.cell 0
                have q1 := hb9.cell 1
                have q2 := hb9.cell 2
                have q3 := hb9.cell 3
                have q4 := hb9.cell 4
                have q5 := hb9.cell 5
                unfold zeroR at q0 q1 q2 q3 q4 q5
                simp at q0 q1 q2 q3 q4 q5
                rw [← HQB.out]
                exact bodyPost_ret (v := .tuple #[.agg #[.string ⟨#[]⟩, .string ⟨#[]⟩, .string ⟨#[]⟩, .string ⟨#[]⟩, .slice none 0 0, .slice none 0 0], .int .i64 31]) (by simp [results, Tryz.results31, go_sem, q0, q1, q2, q3, q4, q5]) rfl (HNO.out W9 31 HE31.out.symm (by decide) hf9)
              go_wp2_with fail
              go_roundw
              case rel => exact ⟨3 + 1, by omega, by first | rfl | go_num, (fun _ => HT.out.1 (by omega)), (fun _ => HT.out.2.1 (by omega)), (fun _ => HT.out.2.2.1 (by omega)), (fun _ => by trivial), HIX.out⟩
              case measure => simp [intOf]
          · rw [show ((4 : Nat) : Int) = 4 from rfl]
            obtain rfl := HT.out.1 (by omega)
            obtain rfl := HT.out.2.1 (by omega)
            obtain rfl := HT.out.2.2.1 (by omega)
            obtain rfl := HT.out.2.2.2 (by omega)
            go_wp2_with fail
            with_reducible refine (HCK.out _ HIL.out.fr).mono ?_
            rintro e w4 ⟨ck2, rfl, hck2, hf⟩
            subst hck2
            have HI4 := Lib.hid (HIL.out.fresh hf)
            clear hf
            by_cases hc0 : ck = 0
            rotate_left
            · have dc : ((ck : Int) != 0) = true := by simp; omega
              have hEC : backE l = ck := by rw [HBE.out, if_neg HNE.out, if_neg (by rw [HRT.out]; simp), HCKE.out, if_pos hc0]
              have HEC := Lib.hid hEC
              have HC0 := Lib.hid hc0
              clear hEC hc0
              have r0 := HI4.out.rs.cell 0
              have r1 := HI4.out.rs.cell 1
              have r2 := HI4.out.rs.cell 2
              have r3 := HI4.out.rs.cell 3
              have r4 := HI4.out.rs.cell 4
              have r5 := HI4.out.rs.cell 5
              have f0 := HI4.out.rs.frozen 0
              have f1 := HI4.out.rs.frozen 1
              have f2 := HI4.out.rs.frozen 2
              have f3 := HI4.out.rs.frozen 3
              have f4 := HI4.out.rs.frozen 4
              have f5 := HI4.out.rs.frozen 5
              unfold zeroR at r0 r1 r2 r3 r4 r5
              simp at r0 r1 r2 r3 r4 r5
              go_wp2_with fail
              refine wx_gen (fun W => Blk W p 25 zeroR ∧ Fresh w W) ⟨by simpa [zeroR] using ((((((HI4.out.rs).set 0 (.string ⟨#[]⟩)).set 1 (.string ⟨#[]⟩)).set 2 (.string ⟨#[]⟩)).set 3 (.string ⟨#[]⟩)).set 4 (.slice none 0 0)).set 5 (.slice none 0 0), ((((((HI4.out.fr.step _ _ HQB2.out.2.2.2.1).step _ _ HQB2.out.2.2.2.1).step _ _ HQB2.out.2.2.2.1).step _ _ HQB2.out.2.2.2.1).step _ _ HQB2.out.2.2.2.1).step _ _ HQB2.out.2.2.2.1)⟩ ?_
              rintro W9 ⟨hb9, hf9⟩
              have q0 := hb9.cell 0
              have q1 := hb9.cell 1
              have q2 := hb9.cell 2
              have q3 := hb9.cell 3
              have q4 := hb9.cell 4
              have q5 := hb9.cell 5
              unfold zeroR at q0 q1 q2 q3 q4 q5
              simp at q0 q1 q2 q3 q4 q5
              rw [← HQB.out]
              exact bodyPost_ret (v := .tuple #[.agg #[.string ⟨#[]⟩, .string ⟨#[]⟩, .string ⟨#[]⟩, .string ⟨#[]⟩, .slice none 0 0, .slice none 0 0], .int .i64 (ck : Int)]) (by simp [results, Tryz.results31, go_sem, q0, q1, q2, q3, q4, q5]) rfl (HNO.out W9 ck HEC.out.symm HC0.out hf9)
            have dc : ((ck : Int) != 0) = false := by rw [hc0]; rfl
            have HBE2 : Hid (backE l = if nvR 4 l = true then 0 else 32) := Lib.hid (by rw [HBE.out, if_neg HNE.out, if_neg (by rw [HRT.out]; simp), HCKE.out, if_neg (by simp [hc0])])
            clear hc0
            go_wp2_with fail
            go_loopw [95] (fun ix wr => ∃ i : Nat, i ≤ m + 4 ∧ ix = .int .i64 (i : Int) ∧ (∀ (j : Nat) y, j < i → l[j]? = some y → y.2 = (decide (4 ≤ j) && senB y.1.1)) ∧ BkI l w b q p 4 wr) (fun i _ => m + 4 - (intOf i).toNat)
            case atStart => exact ⟨0, by omega, rfl, (fun j y hj => by omega), HI4.out⟩
            case round =>
              obtain ⟨i, hi, rfl, hal, hI5⟩ := hrel
              have HI5 := Lib.hid hI5
              have HAL := Lib.hid hal
              clear hI5 hal
              by_cases hin : i < m + 4
              · have hin' : (i : Int) < ((m + 4 : Nat) : Int) := by omega
                have hin2 : (i : Int) < (m : Int) + 4 := by omega
                have hiw : IntKind.i64.wrap ((i : Int) + 1) = (i : Int) + 1 := IntWalk.i64_in _ (by omega)
                obtain ⟨x, hx⟩ : ∃ x, l[i]? = some x := ⟨_, List.getElem?_eq_getElem (by rw [HN.out]; omega)⟩
                obtain ⟨b9, o9, hbo, hb9, g0, g1, g2⟩ := HM.out.lnAt i x hx
                injection hbo with hbo
                injection hbo with hb8 ho8
                subst hb8 ho8
                have e0 := (HI5.out.fr.cell (p := ⟨b0, o0 + i * 3, none⟩) hb9).trans g0
                have e1 := (HI5.out.fr.cell (p := ⟨b0, o0 + i * 3 + 1, none⟩) hb9).trans g1
                have e2 := (HI5.out.fr.cell (p := ⟨b0, o0 + i * 3 + 2, none⟩) hb9).trans g2
                have HX := Lib.hid hx
                obtain ⟨⟨F1, F2⟩, nv⟩ := x
                simp only at e0 e1 e2
                have HSN := Lib.hid (fun w => cl_sen F1 w)
                obtain ⟨sb, hsb⟩ : ∃ sb, senB F1 = sb := ⟨_, rfl⟩
                rw [hsb] at HSN
                have HSB := Lib.hid hsb
                clear hx g0 g1 g2 hb9 hsb
                have HBAD : Hid (nv ≠ (decide (4 ≤ i) && sb) → backE l = 32) := Lib.hid (fun h => by
                  rw [HBE2.out, if_neg]
                  intro hnv
                  apply h
                  have := nvR_at hnv HX.out
                  simp only at this
                  rw [HSB.out] at this
                  exact this)
                have HGO : Hid (nv = (decide (4 ≤ i) && sb) → ∀ (j : Nat) y, j < i + 1 → l[j]? = some y → y.2 = (decide (4 ≤ j) && senB y.1.1)) := Lib.hid (fun h j y hj hy => by
                  by_cases e : j = i
                  · subst e
                    have h1 := HX.out
                    rw [hy] at h1
                    cases h1
                    simp only
                    rw [HSB.out]
                    exact h
                  · exact HAL.out j y (by omega) hy)
                go_upto_region 21 with fail
                refine wp_gen (fun W => Blk W wr.heap.size 38 #[.string F1, .string F2, .bool nv] ∧ Fresh wr W) ⟨Blk.new wr _ _, Fresh.alloc _ _⟩ ?_
                rintro W5 ⟨hbw, hfw⟩
                obtain ⟨yy, hyy⟩ : ∃ y, wr.heap.size = y := ⟨_, rfl⟩
                rw [hyy] at hbw ⊢
                clear hyy e0 e1 e2
                obtain ⟨y0, y1, y2⟩ := hbw.c3
                have HI6 := Lib.hid (HI5.out.fresh hfw)
                clear hbw hfw
                have hsplit : (4 ≤ i ∧ (decide (4 ≤ i)) = true) ∨ (i < 4 ∧ (decide (4 ≤ i)) = false) := by
                  by_cases h : 4 ≤ i
                  · exact .inl ⟨h, decide_eq_true h⟩
                  · exact .inr ⟨by omega, decide_eq_false h⟩
                rcases hsplit with ⟨h3, h4⟩ | ⟨h3, h4⟩
                · have d1 : (4 : Int) ≤ (i : Int) := by omega
                  rw [h4, Bool.true_and] at HBAD HGO
                  clear h3
                  cases nv
                  all_goals
                    cases sb
                    all_goals
                      go_quiet ((go_at_call 32; exact Calls.quiet_of_same (HSN.out _)))
                      all_goals
                        refine wx_gen (BkI l w b q p 4) (HI6.out.fresh (Fresh.drewN _ _)) ?_
                        clear y0 y1 y2
                        rintro W7 hI7
                        have HI7 := Lib.hid hI7
                        clear hI7
                        first
                          | (have HGO2 := Lib.hid (HGO.out rfl)
                             go_wp2_with fail
                             go_roundw
                             case rel => exact ⟨i + 1, by omega, by go_num, HGO2.out, HI7.out⟩
                             case measure => simp [intOf]; omega)
                          | (have HE32 := Lib.hid (HBAD.out (by decide))
                             have r0 := HI7.out.rs.cell 0
                             have r1 := HI7.out.rs.cell 1
                             have r2 := HI7.out.rs.cell 2
                             have r3 := HI7.out.rs.cell 3
                             have r4 := HI7.out.rs.cell 4
                             have r5 := HI7.out.rs.cell 5
                             have f0 := HI7.out.rs.frozen 0
                             have f1 := HI7.out.rs.frozen 1
                             have f2 := HI7.out.rs.frozen 2
                             have f3 := HI7.out.rs.frozen 3
                             have f4 := HI7.out.rs.frozen 4
                             have f5 := HI7.out.rs.frozen 5
                             unfold zeroR at r0 r1 r2 r3 r4 r5
                             simp at r0 r1 r2 r3 r4 r5
                             go_wp2_with fail
                             refine wx_gen (fun W => Blk W p 25 zeroR ∧ Fresh w W) ⟨by simpa [zeroR] using ((((((HI7.out.rs).set 0 (.string ⟨#[]⟩)).set 1 (.string ⟨#[]⟩)).set 2 (.string ⟨#[]⟩)).set 3 (.string ⟨#[]⟩)).set 4 (.slice none 0 0)).set 5 (.slice none 0 0), ((((((HI7.out.fr.step _ _ HQB2.out.2.2.2.1).step _ _ HQB2.out.2.2.2.1).step _ _ HQB2.out.2.2.2.1).step _ _ HQB2.out.2.2.2.1).step _ _ HQB2.out.2.2.2.1).step _ _ HQB2.out.2.2.2.1)⟩ ?_
                             rintro W9 ⟨hb9, hf9⟩
                             have q0 := hb9.cell 0
                             have q1 := hb9.cell 1
                             have q2 := hb9.cell 2
                             have q3 := hb9.cell 3
                             have q4 := hb9.cell 4
                             have q5 := hb9.cell 5
                             unfold zeroR at q0 q1 q2 q3 q4 q5
                             simp at q0 q1 q2 q3 q4 q5
                             rw [← HQB.out]
                             exact bodyPost_ret (v := .tuple #[.agg #[.string ⟨#[]⟩, .string ⟨#[]⟩, .string ⟨#[]⟩, .string ⟨#[]⟩, .slice none 0 0, .slice none 0 0], .int .i64 32]) (by simp [results, Tryz.results31, go_sem, q0, q1, q2, q3, q4, q5]) rfl (HNO.out W9 32 HE32.out.symm (by decide) hf9))
                · have d1 : decide ((4 : Int) ≤ (i : Int)) = false := decide_eq_false (by omega)
                  rw [h4, Bool.false_and] at HBAD HGO
                  clear h3
                  cases nv
                  all_goals
                    go_quiet ((go_at_call 32; exact Calls.quiet_of_same (HSN.out _)))
                    all_goals
                      refine wx_gen (BkI l w b q p 4) (HI6.out.fresh (Fresh.drewN _ _)) ?_
                      clear y0 y1 y2
                      rintro W7 hI7
                      have HI7 := Lib.hid hI7
                      clear hI7
                      first
                        | (have HGO2 := Lib.hid (HGO.out rfl)
                           go_wp2_with fail
                           go_roundw
                           case rel => exact ⟨i + 1, by omega, by go_num, HGO2.out, HI7.out⟩
                           case measure => simp [intOf]; omega)
                        | (have HE32 := Lib.hid (HBAD.out (by decide))
                           have r0 := HI7.out.rs.cell 0
                           have r1 := HI7.out.rs.cell 1
                           have r2 := HI7.out.rs.cell 2
                           have r3 := HI7.out.rs.cell 3
                           have r4 := HI7.out.rs.cell 4
                           have r5 := HI7.out.rs.cell 5
                           have f0 := HI7.out.rs.frozen 0
                           have f1 := HI7.out.rs.frozen 1
                           have f2 := HI7.out.rs.frozen 2
                           have f3 := HI7.out.rs.frozen 3
                           have f4 := HI7.out.rs.frozen 4
                           have f5 := HI7.out.rs.frozen 5
                           unfold zeroR at r0 r1 r2 r3 r4 r5
                           simp at r0 r1 r2 r3 r4 r5
                           go_wp2_with fail
                           refine wx_gen (fun W => Blk W p 25 zeroR ∧ Fresh w W) ⟨by simpa [zeroR] using ((((((HI7.out.rs).set 0 (.string ⟨#[]⟩)).set 1 (.string ⟨#[]⟩)).set 2 (.string ⟨#[]⟩)).set 3 (.string ⟨#[]⟩)).set 4 (.slice none 0 0)).set 5 (.slice none 0 0), ((((((HI7.out.fr.step _ _ HQB2.out.2.2.2.1).step _ _ HQB2.out.2.2.2.1).step _ _ HQB2.out.2.2.2.1).step _ _ HQB2.out.2.2.2.1).step _ _ HQB2.out.2.2.2.1).step _ _ HQB2.out.2.2.2.1)⟩ ?_
                           rintro W9 ⟨hb9, hf9⟩
                           have q0 := hb9.cell 0
                           have q1 := hb9.cell 1
                           have q2 := hb9.cell 2
                           have q3 := hb9.cell 3
                           have q4 := hb9.cell 4
                           have q5 := hb9.cell 5
                           unfold zeroR at q0 q1 q2 q3 q4 q5
                           simp at q0 q1 q2 q3 q4 q5
                           rw [← HQB.out]
                           exact bodyPost_ret (v := .tuple #[.agg #[.string ⟨#[]⟩, .string ⟨#[]⟩, .string ⟨#[]⟩, .string ⟨#[]⟩, .slice none 0 0, .slice none 0 0], .int .i64 32]) (by simp [results, Tryz.results31, go_sem, q0, q1, q2, q3, q4, q5]) rfl (HNO.out W9 32 HE32.out.symm (by decide) hf9))
              · obtain rfl : i = m + 4 := by omega
                have hE0 : backE l = 0 := by
                  rw [HBE2.out, if_pos (nvR_all (fun j y hy => HAL.out j y (by
                    have := (List.getElem?_eq_some_iff.1 hy).1
                    rw [HN.out] at this
                    omega) hy))]
                have HE0 := Lib.hid hE0
                clear hE0 hin
                go_wp2_with fail
                with_reducible refine (HFD.out _ HI5.out.fr).mono ?_
                rintro e w6 ⟨P, rfl, hP, hmf, hf⟩
                have HI6 := Lib.hid (HI5.out.fresh hf)
                have HP6 := Lib.hid hP
                have HMF := Lib.hid hmf
                have HBP : Hid (P ≠ b ∧ P ≠ p) := Lib.hid (by
                  have h1 := HI5.out.row.lt
                  have h2 := HI5.out.rs.lt
                  omega)
                clear hf hP hmf
                have z4 := (HROW.out _ HI6.out).2.2.2.2.cell 4
                have f4 := (HROW.out _ HI6.out).2.2.2.2.frozen 4
                simp at z4
                go_upto_region 25 with fail
                refine wp_gen (fun W => Blk W b 25 #[.string tm, .string ts, .string tp, .string ta, .slice (some ⟨P, 0, none⟩) m m, .slice none 0 0] ∧ Blk W p 25 zeroR ∧ Fresh w W ∧ Many fldD 2 W (some ⟨P, 0, none⟩) (tl.map (·.1))) ⟨by simpa using (HROW.out _ HI6.out).2.2.2.2.set 4 (.slice (some ⟨P, 0, none⟩) m m), HI6.out.rs.far HQB2.out.2.1 _, HI6.out.fr.step _ _ HQB2.out.2.2.1, by have h0 : Only (fun k => k = b) w6 w6 := Only.of_fresh (Fresh.refl _); exact HMF.out.only (h0.step ⟨b, 4, none⟩ _ (.inl rfl)) (fun b' o' e => by cases e; exact HBP.out.1)⟩ ?_
                rintro W8 ⟨h81, h82, h83, h84⟩
                have H82 := Lib.hid h82
                have H83 := Lib.hid h83
                have H84 := Lib.hid h84
                have v0 := h81.cell 0
                have v1 := h81.cell 1
                have v2 := h81.cell 2
                have v3 := h81.cell 3
                have v4 := h81.cell 4
                have v5 := h81.cell 5
                simp at v0 v1 v2 v3 v4 v5
                clear z4 f4 h81 h82 h83 h84
                have r0 := H82.out.cell 0
                have r1 := H82.out.cell 1
                have r2 := H82.out.cell 2
                have r3 := H82.out.cell 3
                have r4 := H82.out.cell 4
                have r5 := H82.out.cell 5
                have f0 := H82.out.frozen 0
                have f1 := H82.out.frozen 1
                have f2 := H82.out.frozen 2
                have f3 := H82.out.frozen 3
                have f4 := H82.out.frozen 4
                have f5 := H82.out.frozen 5
                unfold zeroR at r0 r1 r2 r3 r4 r5
                simp at r0 r1 r2 r3 r4 r5
                go_wp2_with fail
                refine wx_gen (fun W => Blk W p 25 #[.string tm, .string ts, .string tp, .string ta, .slice (some ⟨P, 0, none⟩) m m, .slice none 0 0] ∧ Fresh w W ∧ Many fldD 2 W (some ⟨P, 0, none⟩) (tl.map (·.1))) ⟨by simpa [zeroR] using ((((((H82.out).set 0 (.string tm)).set 1 (.string ts)).set 2 (.string tp)).set 3 (.string ta)).set 4 (.slice (some ⟨P, 0, none⟩) m m)).set 5 (.slice none 0 0), ((((((H83.out.step _ _ HQB2.out.2.2.2.1).step _ _ HQB2.out.2.2.2.1).step _ _ HQB2.out.2.2.2.1).step _ _ HQB2.out.2.2.2.1).step _ _ HQB2.out.2.2.2.1).step _ _ HQB2.out.2.2.2.1), by have h0 : Only (fun k => k = p) W8 W8 := Only.of_fresh (Fresh.refl _); exact H84.out.only ((((((h0.step ⟨p, 0, none⟩ _ (.inl rfl)).step ⟨p, 1, none⟩ _ (.inl rfl)).step ⟨p, 2, none⟩ _ (.inl rfl)).step ⟨p, 3, none⟩ _ (.inl rfl)).step ⟨p, 4, none⟩ _ (.inl rfl)).step ⟨p, 5, none⟩ _ (.inl rfl)) (fun b' o' e => by cases e; exact HBP.out.2)⟩ ?_
                rintro W9 ⟨hb9, hf9, hm9⟩
                have q0 := hb9.cell 0
                have q1 := hb9.cell 1
                have q2 := hb9.cell 2
                have q3 := hb9.cell 3
                have q4 := hb9.cell 4
                have q5 := hb9.cell 5
                simp at q0 q1 q2 q3 q4 q5
                rw [← HQB.out]
                exact bodyPost_ret (v := .tuple #[.agg #[.string tm, .string ts, .string tp, .string ta, .slice (some ⟨P, 0, none⟩) m m, .slice none 0 0], .int .i64 0]) (by simp [results, Tryz.results31, go_sem, q0, q1, q2, q3, q4, q5]) rfl (HFIN.out _ W9 HE0.out hm9 hf9)
    have hk' : (k : Int) < 4 := by omega
    by_cases hlt : k < n
    rotate_left
    · have d0 : decide ((k : Int) < (n : Int)) = false := decide_eq_false (by omega)
      have d1 : decide (k < n) = false := decide_eq_false hlt
      have hmm : mtc namesR l = k := by
        have h1 := (mtc_le namesR l).2
        have h2 := HI.out.ks
        have := HN.out
        omega
      obtain rfl : k = n := by omega
      by_cases hk3 : k < 3
      · go_upto_region 4 with fail
        go_quiet (fail)
        all_goals
          refine wx_gen (fun W => Fresh wr W) (Fresh.drewN _ _) ?_
          rintro W hw
          have HIW := Lib.hid (HI.out.fresh hw)
          clear hw
          have hb32 : backE l = 32 := by unfold backE; rw [if_pos (by rw [hmm]; omega)]
          have HB32 := Lib.hid hb32
          have d3 : (k : Int) < 3 := by omega
          clear hb32
          have r0 := HIW.out.rs.cell 0
          have r1 := HIW.out.rs.cell 1
          have r2 := HIW.out.rs.cell 2
          have r3 := HIW.out.rs.cell 3
          have r4 := HIW.out.rs.cell 4
          have r5 := HIW.out.rs.cell 5
          have f0 := HIW.out.rs.frozen 0
          have f1 := HIW.out.rs.frozen 1
          have f2 := HIW.out.rs.frozen 2
          have f3 := HIW.out.rs.frozen 3
          have f4 := HIW.out.rs.frozen 4
          have f5 := HIW.out.rs.frozen 5
          unfold zeroR at r0 r1 r2 r3 r4 r5
          simp at r0 r1 r2 r3 r4 r5
          go_wp2_with fail
          refine wx_gen (fun W => Blk W p 25 zeroR ∧ Fresh w W) ⟨by simpa [zeroR] using ((((((HIW.out.rs).set 0 (.string ⟨#[]⟩)).set 1 (.string ⟨#[]⟩)).set 2 (.string ⟨#[]⟩)).set 3 (.string ⟨#[]⟩)).set 4 (.slice none 0 0)).set 5 (.slice none 0 0), ((((((HIW.out.fr.step _ _ HQB2.out.2.2.2.1).step _ _ HQB2.out.2.2.2.1).step _ _ HQB2.out.2.2.2.1).step _ _ HQB2.out.2.2.2.1).step _ _ HQB2.out.2.2.2.1).step _ _ HQB2.out.2.2.2.1)⟩ ?_
          rintro W9 ⟨hb9, hf9⟩
          have q0 := hb9.cell 0
          have q1 := hb9.cell 1
          have q2 := hb9.cell 2
          have q3 := hb9.cell 3
          have q4 := hb9.cell 4
          have q5 := hb9.cell 5
          unfold zeroR at q0 q1 q2 q3 q4 q5
          simp at q0 q1 q2 q3 q4 q5
          rw [← HQB.out]
          exact bodyPost_ret (v := .tuple #[.agg #[.string ⟨#[]⟩, .string ⟨#[]⟩, .string ⟨#[]⟩, .string ⟨#[]⟩, .slice none 0 0, .slice none 0 0], .int .i64 32]) (by simp [results, Tryz.results31, go_sem, q0, q1, q2, q3, q4, q5]) rfl (HNO.out W9 32 HB32.out.symm (by decide) hf9)
      obtain rfl : k = 3 := by omega
      rw [show ((3 : Nat) : Int) = 3 from rfl]
      clear d0 d1 hk' hlt hk3 hk
      go_upto_region 4 with fail
      go_quiet (fail)
      all_goals
        refine wx_gen (fun W => Fresh wr W) (Fresh.drewN _ _) ?_
        rintro W hw
        have HIW := Lib.hid (HI.out.fresh hw)
        clear hw
        obtain ⟨x0, hx0⟩ : ∃ x, l[0]? = some x := ⟨_, List.getElem?_eq_getElem (by rw [HN.out]; omega)⟩
        obtain ⟨b0, o0, rfl, _⟩ := HM.out.lnAt 0 x0 hx0
        clear hx0
        by_cases hc4 : c0 = 3
        · subst hc4
          clear hc
          obtain ⟨tl, htl⟩ : ∃ tl, l.drop 3 = tl := ⟨_, rfl⟩
          have HTLN : Hid (tl.length = 0) := Lib.hid (by have h := HN.out; rw [← htl, List.length_drop]; omega)
          have hmtl : Many lnD 3 w (some ⟨b0, o0, none⟩) tl := by rw [← htl]; rw [List.drop_eq_nil_of_le (Nat.le_of_eq HN.out)]; exact Many.nil _ _ _ _
          have hstl : ∀ x ∈ tl, x.1.2.size ≤ 1000000 := fun x hx => (HS.out x (by rw [← htl] at hx; exact List.mem_of_mem_drop hx)).2
          obtain ⟨ps, hps⟩ : ∃ ps, psB tl = ps := ⟨_, rfl⟩
          obtain ⟨ck, hck⟩ : ∃ ck, chkR tl = ck := ⟨_, rfl⟩
          have HPS := Lib.hid (fun W (h : Fresh w W) => rq_pseudo (some ⟨b0, o0, none⟩) 0 tl W (hmtl.fresh h) (by rw [HTLN.out]; omega) ps hps)
          have HCK := Lib.hid (fun W (h : Fresh w W) => cl_check (some ⟨b0, o0, none⟩) 0 tl W (hmtl.fresh h) (by rw [HTLN.out]; omega) hstl)
          have HFD := Lib.hid (fun W (h : Fresh w W) => de_fields (some ⟨b0, o0, none⟩) 0 tl W (hmtl.fresh h) (by rw [HTLN.out]; omega))
          unfold ChkP at HCK
          unfold FldsP at HFD
          rw [HTLN.out] at HPS HCK HFD
          rw [hck] at HCK
          obtain ⟨tm, htm⟩ : ∃ t, txtR l 3 0 = t := ⟨_, rfl⟩
          obtain ⟨ts, hts⟩ : ∃ t, txtR l 3 1 = t := ⟨_, rfl⟩
          obtain ⟨tp, htp⟩ : ∃ t, txtR l 3 2 = t := ⟨_, rfl⟩
          obtain ⟨ta, hta⟩ : ∃ t, txtR l 3 3 = t := ⟨_, rfl⟩
          have z0 := txtR_size (n := 3) (k := 0) (fun x hx => (HS.out x hx).2)
          have z2 := txtR_size (n := 3) (k := 2) (fun x hx => (HS.out x hx).2)
          have z3 := txtR_size (n := 3) (k := 3) (fun x hx => (HS.out x hx).2)
          rw [htm] at z0
          rw [htp] at z2
          rw [hta] at z3
          have HR0 := Lib.hid (fun w => rq_method tm w (by omega))
          have HR1 := Lib.hid (fun w => rq_scheme ts w)
          have HR2 := Lib.hid (fun w => rq_path tp w (by omega))
          have HR3 := Lib.hid (fun w => rq_visible ta w (by omega))
          obtain ⟨bb0, hb0'⟩ : ∃ b, mthB tm.data.toList = b := ⟨_, rfl⟩
          obtain ⟨bb1, hb1'⟩ : ∃ b, schB ts = b := ⟨_, rfl⟩
          obtain ⟨bb2, hb2'⟩ : ∃ b, pthB tp = b := ⟨_, rfl⟩
          obtain ⟨bb3, hb3'⟩ : ∃ b, visB ta.data.toList = b := ⟨_, rfl⟩
          have HRT : Hid (rightR tm ts tp ta = (bb0 && (bb1 && (bb2 && bb3)))) := Lib.hid (by unfold rightR; rw [hb0', hb1', hb2', hb3'])
          rw [hb0'] at HR0
          rw [hb1'] at HR1
          rw [hb2'] at HR2
          rw [hb3'] at HR3
          have HROW : Hid (∀ W, BkI l w b q p 3 W → W.cell? ⟨b, 0, none⟩ = some (.string tm) ∧ W.cell? ⟨b, 1, none⟩ = some (.string ts) ∧ W.cell? ⟨b, 2, none⟩ = some (.string tp) ∧ W.cell? ⟨b, 3, none⟩ = some (.string ta) ∧ Blk W b 25 #[.string tm, .string ts, .string tp, .string ta, .slice none 0 0, .slice none 0 0]) := Lib.hid (fun W h => by
            have hr := h.row
            unfold arrB at hr
            rw [htm, hts, htp, hta] at hr
            exact ⟨hr.cell 0, hr.cell 1, hr.cell 2, hr.cell 3, hr⟩)
          have HBE : Hid (backE l = if (3 = 4 ∧ ta.data.toList = []) ∨ psB tl = true then 32 else if rightR tm ts tp ta = false then 31 else if chkR tl ≠ 0 then chkR tl else if nvR 3 l = true then 0 else 32) := Lib.hid (by unfold backE; rw [hmm, htm, hts, htp, hta, htl, if_neg (by omega)])
          have HPSE := Lib.hid hps
          have HCKE := Lib.hid hck
          have HFIN : Hid (∀ (A : Option Addr) W, backE l = 0 → Many fldD 2 W A (tl.map (·.1)) → Fresh w W → PP (.returned (.tuple #[.agg #[.string tm, .string ts, .string tp, .string ta, .slice A 0 0, .slice none 0 0], .int .i64 0])) W) := Lib.hid (fun A W h0 hm hf => HYES.out W tm ts tp ta A 0 h0.symm (by rw [hmm]; exact ⟨htm.symm, hts.symm, htp.symm, hta.symm, by rw [htl, HTLN.out], by rw [htl]; exact hm⟩) hf)
          clear hmtl hstl hps hck htm hts htp hta z0 z2 z3 hb0' hb1' hb2' hb3' htl
          obtain ⟨_, _, _, t3, _⟩ := HROW.out W HIW.out
          go_wp2_with fail
          with_reducible refine (HPS.out _ HIW.out.fr).mono ?_
          rintro e w3 ⟨rfl, hf⟩
          have HI3 := Lib.hid (HIW.out.fresh hf)
          clear hf t3
          cases ps
          rotate_left
          · have hE32 : backE l = 32 := by rw [HBE.out, if_pos (.inr HPSE.out)]
            have HE32 := Lib.hid hE32
            clear hE32
            have r0 := HI3.out.rs.cell 0
            have r1 := HI3.out.rs.cell 1
            have r2 := HI3.out.rs.cell 2
            have r3 := HI3.out.rs.cell 3
            have r4 := HI3.out.rs.cell 4
            have r5 := HI3.out.rs.cell 5
            have f0 := HI3.out.rs.frozen 0
            have f1 := HI3.out.rs.frozen 1
            have f2 := HI3.out.rs.frozen 2
            have f3 := HI3.out.rs.frozen 3
            have f4 := HI3.out.rs.frozen 4
            have f5 := HI3.out.rs.frozen 5
            unfold zeroR at r0 r1 r2 r3 r4 r5
            simp at r0 r1 r2 r3 r4 r5
            go_wp2_with fail
            refine wx_gen (fun W => Blk W p 25 zeroR ∧ Fresh w W) ⟨by simpa [zeroR] using ((((((HI3.out.rs).set 0 (.string ⟨#[]⟩)).set 1 (.string ⟨#[]⟩)).set 2 (.string ⟨#[]⟩)).set 3 (.string ⟨#[]⟩)).set 4 (.slice none 0 0)).set 5 (.slice none 0 0), ((((((HI3.out.fr.step _ _ HQB2.out.2.2.2.1).step _ _ HQB2.out.2.2.2.1).step _ _ HQB2.out.2.2.2.1).step _ _ HQB2.out.2.2.2.1).step _ _ HQB2.out.2.2.2.1).step _ _ HQB2.out.2.2.2.1)⟩ ?_
            rintro W9 ⟨hb9, hf9⟩
            have q0 := hb9.cell 0
            have q1 := hb9.cell 1
            have q2 := hb9.cell 2
            have q3 := hb9.cell 3
            have q4 := hb9.cell 4
            have q5 := hb9.cell 5
            unfold zeroR at q0 q1 q2 q3 q4 q5
            simp at q0 q1 q2 q3 q4 q5
            rw [← HQB.out]
            exact bodyPost_ret (v := .tuple #[.agg #[.string ⟨#[]⟩, .string ⟨#[]⟩, .string ⟨#[]⟩, .string ⟨#[]⟩, .slice none 0 0, .slice none 0 0], .int .i64 32]) (by simp [results, Tryz.results31, go_sem, q0, q1, q2, q3, q4, q5]) rfl (HNO.out W9 32 HE32.out.symm (by decide) hf9)
          have HNE : Hid (¬ ((3 = 4 ∧ ta.data.toList = []) ∨ psB tl = true)) := Lib.hid (fun h => by rcases h with h | h; exact absurd h.1 (by decide); rw [HPSE.out] at h; cases h)
          go_wp2_with fail
          go_loopw [71] (fun ix wr => ∃ k : Nat, k ≤ 4 ∧ ix = .int .i64 (k : Int) ∧ (0 < k → bb0 = true) ∧ (1 < k → bb1 = true) ∧ (2 < k → bb2 = true) ∧ (3 < k → bb3 = true) ∧ BkI l w b q p 3 wr) (fun i _ => 4 - (intOf i).toNat)
          case atStart => exact ⟨0, by omega, rfl, (fun h => by omega), (fun h => by omega), (fun h => by omega), (fun h => by omega), HI3.out⟩
          case round =>
            obtain ⟨k, hk, rfl, ht0, ht1, ht2, ht3, hIL⟩ := hrel
            have HIL := Lib.hid hIL
            have HT := Lib.hid (And.intro ht0 (And.intro ht1 (And.intro ht2 ht3)))
            clear hIL ht0 ht1 ht2 ht3
            rcases (show k = 0 ∨ k = 1 ∨ k = 2 ∨ k = 3 ∨ k = 4 by omega) with rfl | rfl | rfl | rfl | rfl
            · rw [show ((0 : Nat) : Int) = 0 from rfl]
              have hqk := HIL.out.pl
              have e0 := hqk.cell 0
              have e1 := hqk.cell 1
              have e2 := hqk.cell 2
              unfold plcA at e0 e1 e2
              simp at e0 e1 e2
              clear hqk
              go_upto_region 12 with fail
              refine wp_gen (fun W => Blk W wr.heap.size 72 #[.string mthN, .pointer (some ⟨b, 0, none⟩), .func (.func 47) #[] #[]] ∧ Fresh wr W) ⟨Blk.new wr _ _, Fresh.alloc _ _⟩ ?_
              rintro W ⟨hbw, hfw⟩
              obtain ⟨pp, hpp⟩ : ∃ p, wr.heap.size = p := ⟨_, rfl⟩
              rw [hpp] at hbw ⊢
              clear hpp e0 e1 e2
              have HSK : Hid (∀ w', Fresh W w' → w'.cell? ⟨pp, 0, none⟩ = some (.string mthN) ∧ w'.cell? ⟨pp, 1, none⟩ = some (.pointer (some ⟨b, 0, none⟩)) ∧ w'.cell? ⟨pp, 2, none⟩ = some (.func (.func 47) #[] #[]) ∧ w'.cell? ⟨b, 0, none⟩ = some (.string tm) ∧ Fresh W w') := Lib.hid (fun w' hw => ⟨(hbw.fresh hw).cell 0, (hbw.fresh hw).cell 1, (hbw.fresh hw).cell 2, (HROW.out _ (HIL.out.fresh (hfw.trans hw))).1, hw⟩)
              have HIW2 := Lib.hid (HIL.out.fresh hfw)
              clear hbw hfw HIL
              obtain ⟨y0, y1, y2, y3, _⟩ := HSK.out W (Fresh.refl _)
              go_region_held3 (fun w' => w'.cell? ⟨pp, 0, none⟩ = some (.string mthN) ∧ w'.cell? ⟨pp, 1, none⟩ = some (.pointer (some ⟨b, 0, none⟩)) ∧ w'.cell? ⟨pp, 2, none⟩ = some (.func (.func 47) #[] #[]) ∧ w'.cell? ⟨b, 0, none⟩ = some (.string tm) ∧ Fresh W w')
                ((refine HSK.out _ ?_; first | with_reducible assumption | with_reducible exact Fresh.drew _))
                (first | (go_at_call 47; (with_reducible refine (HR0.out _).mono ?_); rintro e wa ⟨rfl, hwa⟩; have hga : Fresh W wa := by (rw [hwa]; first | with_reducible assumption | with_reducible exact Fresh.drew _)))
              all_goals
                refine wx_gen (fun W2 => Fresh W W2) (by first | exact hga | exact Fresh.drew _) ?_
                clear y0 y1 y2 y3
                rintro W2 hw2
                have HIX := Lib.hid (HIW2.out.fresh hw2)
                clear hw2
                cases bb0
                · have hE31 : backE l = 31 := by rw [HBE.out, if_neg HNE.out, if_pos (by rw [HRT.out]; simp)]
                  have HE31 := Lib.hid hE31
                  clear hE31
                  have r0 := HIX.out.rs.cell 0
                  have r1 := HIX.out.rs.cell 1
                  have r2 := HIX.out.rs.cell 2
                  have r3 := HIX.out.rs.cell 3
                  have r4 := HIX.out.rs.cell 4
                  have r5 := HIX.out.rs.cell 5
                  have f0 := HIX.out.rs.frozen 0
                  have f1 := HIX.out.rs.frozen 1
                  have f2 := HIX.out.rs.frozen 2
                  have f3 := HIX.out.rs.frozen 3
                  have f4 := HIX.out.rs.frozen 4
                  have f5 := HIX.out.rs.frozen 5
                  unfold zeroR at r0 r1 r2 r3 r4 r5
                  simp at r0 r1 r2 r3 r4 r5
                  go_wp2_with fail
                  refine wx_gen (fun W => Blk W p 25 zeroR ∧ Fresh w W) ⟨by simpa [zeroR] using ((((((HIX.out.rs).set 0 (.string ⟨#[]⟩)).set 1 (.string ⟨#[]⟩)).set 2 (.string ⟨#[]⟩)).set 3 (.string ⟨#[]⟩)).set 4 (.slice none 0 0)).set 5 (.slice none 0 0), ((((((HIX.out.fr.step _ _ HQB2.out.2.2.2.1).step _ _ HQB2.out.2.2.2.1).step _ _ HQB2.out.2.2.2.1).step _ _ HQB2.out.2.2.2.1).step _ _ HQB2.out.2.2.2.1).step _ _ HQB2.out.2.2.2.1)⟩ ?_
                  rintro W9 ⟨hb9, hf9⟩
                  have q0 := hb9.cell 0
                  have q1 := hb9.cell 1
                  have q2 := hb9.cell 2
                  have q3 := hb9.cell 3
                  have q4 := hb9.cell 4
                  have q5 := hb9.cell 5
                  unfold zeroR at q0 q1 q2 q3 q4 q5
                  simp at q0 q1 q2 q3 q4 q5
                  rw [← HQB.out]
                  exact bodyPost_ret (v := .tuple #[.agg #[.string ⟨#[]⟩, .string ⟨#[]⟩, .string ⟨#[]⟩, .string ⟨#[]⟩, .slice none 0 0, .slice none 0 0], .int .i64 31]) (by simp [results, Tryz.results31, go_sem, q0, q1, q2, q3, q4, q5]) rfl (HNO.out W9 31 HE31.out.symm (by decide) hf9)
                go_wp2_with fail
                go_roundw
                case rel => exact ⟨0 + 1, by omega, by first | rfl | go_num, (fun _ => by trivial), (fun h => absurd h (by omega)), (fun h => absurd h (by omega)), (fun h => absurd h (by omega)), HIX.out⟩
                case measure => simp [intOf]
            · rw [show ((1 : Nat) : Int) = 1 from rfl]
              have hqk := HIL.out.pl
              have e0 := hqk.cell 3
              have e1 := hqk.cell 4
              have e2 := hqk.cell 5
              unfold plcA at e0 e1 e2
              simp at e0 e1 e2
              clear hqk
              go_upto_region 12 with fail
              refine wp_gen (fun W => Blk W wr.heap.size 72 #[.string schN, .pointer (some ⟨b, 1, none⟩), .func (.func 48) #[] #[]] ∧ Fresh wr W) ⟨Blk.new wr _ _, Fresh.alloc _ _⟩ ?_
              rintro W ⟨hbw, hfw⟩
              obtain ⟨pp, hpp⟩ : ∃ p, wr.heap.size = p := ⟨_, rfl⟩
              rw [hpp] at hbw ⊢
              clear hpp e0 e1 e2
              have HSK : Hid (∀ w', Fresh W w' → w'.cell? ⟨pp, 0, none⟩ = some (.string schN) ∧ w'.cell? ⟨pp, 1, none⟩ = some (.pointer (some ⟨b, 1, none⟩)) ∧ w'.cell? ⟨pp, 2, none⟩ = some (.func (.func 48) #[] #[]) ∧ w'.cell? ⟨b, 1, none⟩ = some (.string ts) ∧ Fresh W w') := Lib.hid (fun w' hw => ⟨(hbw.fresh hw).cell 0, (hbw.fresh hw).cell 1, (hbw.fresh hw).cell 2, (HROW.out _ (HIL.out.fresh (hfw.trans hw))).2.1, hw⟩)
              have HIW2 := Lib.hid (HIL.out.fresh hfw)
              clear hbw hfw HIL
              obtain ⟨y0, y1, y2, y3, _⟩ := HSK.out W (Fresh.refl _)
              go_region_held3 (fun w' => w'.cell? ⟨pp, 0, none⟩ = some (.string schN) ∧ w'.cell? ⟨pp, 1, none⟩ = some (.pointer (some ⟨b, 1, none⟩)) ∧ w'.cell? ⟨pp, 2, none⟩ = some (.func (.func 48) #[] #[]) ∧ w'.cell? ⟨b, 1, none⟩ = some (.string ts) ∧ Fresh W w')
                ((refine HSK.out _ ?_; first | with_reducible assumption | with_reducible exact Fresh.drew _))
                (first | (go_at_call 48; (with_reducible refine (HR1.out _).mono ?_); rintro e wa ⟨rfl, hwa⟩; have hga : Fresh W wa := by (rw [hwa]; first | with_reducible assumption | with_reducible exact Fresh.drew _)))
              all_goals
                refine wx_gen (fun W2 => Fresh W W2) (by first | exact hga | exact Fresh.drew _) ?_
                clear y0 y1 y2 y3
                rintro W2 hw2
                have HIX := Lib.hid (HIW2.out.fresh hw2)
                clear hw2
                cases bb1
                · have hE31 : backE l = 31 := by rw [HBE.out, if_neg HNE.out, if_pos (by rw [HRT.out]; simp)]
                  have HE31 := Lib.hid hE31
                  clear hE31
                  have r0 := HIX.out.rs.cell 0
                  have r1 := HIX.out.rs.cell 1
                  have r2 := HIX.out.rs.cell 2
                  have r3 := HIX.out.rs.cell 3
                  have r4 := HIX.out.rs.cell 4
                  have r5 := HIX.out.rs.cell 5
                  have f0 := HIX.out.rs.frozen 0
                  have f1 := HIX.out.rs.frozen 1
                  have f2 := HIX.out.rs.frozen 2
                  have f3 := HIX.out.rs.frozen 3
                  have f4 := HIX.out.rs.frozen 4
                  have f5 := HIX.out.rs.frozen 5
                  unfold zeroR at r0 r1 r2 r3 r4 r5
                  simp at r0 r1 r2 r3 r4 r5
                  go_wp2_with fail
                  refine wx_gen (fun W => Blk W p 25 zeroR ∧ Fresh w W) ⟨by simpa [zeroR] using ((((((HIX.out.rs).set 0 (.string ⟨#[]⟩)).set 1 (.string ⟨#[]⟩)).set 2 (.string ⟨#[]⟩)).set 3 (.string ⟨#[]⟩)).set 4 (.slice none 0 0)).set 5 (.slice none 0 0), ((((((HIX.out.fr.step _ _ HQB2.out.2.2.2.1).step _ _ HQB2.out.2.2.2.1).step _ _ HQB2.out.2.2.2.1).step _ _ HQB2.out.2.2.2.1).step _ _ HQB2.out.2.2.2.1).step _ _ HQB2.out.2.2.2.1)⟩ ?_
                  rintro W9 ⟨hb9, hf9⟩
                  have q0 := hb9.cell 0
                  have q1 := hb9.cell 1
                  have q2 := hb9.cell 2
                  have q3 := hb9.cell 3
                  have q4 := hb9.cell 4
                  have q5 := hb9.cell 5
                  unfold zeroR at q0 q1 q2 q3 q4 q5
                  simp at q0 q1 q2 q3 q4 q5
                  rw [← HQB.out]
                  exact bodyPost_ret (v := .tuple #[.agg #[.string ⟨#[]⟩, .string ⟨#[]⟩, .string ⟨#[]⟩, .string ⟨#[]⟩, .slice none 0 0, .slice none 0 0], .int .i64 31]) (by simp [results, Tryz.results31, go_sem, q0, q1, q2, q3, q4, q5]) rfl (HNO.out W9 31 HE31.out.symm (by decide) hf9)
                go_wp2_with fail
                go_roundw
                case rel => exact ⟨1 + 1, by omega, by first | rfl | go_num, (fun _ => HT.out.1 (by omega)), (fun _ => by trivial), (fun h => absurd h (by omega)), (fun h => absurd h (by omega)), HIX.out⟩
                case measure => simp [intOf]
            · rw [show ((2 : Nat) : Int) = 2 from rfl]
              have hqk := HIL.out.pl
              have e0 := hqk.cell 6
              have e1 := hqk.cell 7
              have e2 := hqk.cell 8
              unfold plcA at e0 e1 e2
              simp at e0 e1 e2
              clear hqk
              go_upto_region 12 with fail
              refine wp_gen (fun W => Blk W wr.heap.size 72 #[.string pthN, .pointer (some ⟨b, 2, none⟩), .func (.func 49) #[] #[]] ∧ Fresh wr W) ⟨Blk.new wr _ _, Fresh.alloc _ _⟩ ?_
              rintro W ⟨hbw, hfw⟩
              obtain ⟨pp, hpp⟩ : ∃ p, wr.heap.size = p := ⟨_, rfl⟩
              rw [hpp] at hbw ⊢
              clear hpp e0 e1 e2
              have HSK : Hid (∀ w', Fresh W w' → w'.cell? ⟨pp, 0, none⟩ = some (.string pthN) ∧ w'.cell? ⟨pp, 1, none⟩ = some (.pointer (some ⟨b, 2, none⟩)) ∧ w'.cell? ⟨pp, 2, none⟩ = some (.func (.func 49) #[] #[]) ∧ w'.cell? ⟨b, 2, none⟩ = some (.string tp) ∧ Fresh W w') := Lib.hid (fun w' hw => ⟨(hbw.fresh hw).cell 0, (hbw.fresh hw).cell 1, (hbw.fresh hw).cell 2, (HROW.out _ (HIL.out.fresh (hfw.trans hw))).2.2.1, hw⟩)
              have HIW2 := Lib.hid (HIL.out.fresh hfw)
              clear hbw hfw HIL
              obtain ⟨y0, y1, y2, y3, _⟩ := HSK.out W (Fresh.refl _)
              go_region_held3 (fun w' => w'.cell? ⟨pp, 0, none⟩ = some (.string pthN) ∧ w'.cell? ⟨pp, 1, none⟩ = some (.pointer (some ⟨b, 2, none⟩)) ∧ w'.cell? ⟨pp, 2, none⟩ = some (.func (.func 49) #[] #[]) ∧ w'.cell? ⟨b, 2, none⟩ = some (.string tp) ∧ Fresh W w')
                ((refine HSK.out _ ?_; first | with_reducible assumption | with_reducible exact Fresh.drew _))
                (first | (go_at_call 49; (with_reducible refine (HR2.out _).mono ?_); rintro e wa ⟨rfl, hwa⟩; have hga : Fresh W wa := by (rw [hwa]; first | with_reducible assumption | with_reducible exact Fresh.drew _)))
              all_goals
                refine wx_gen (fun W2 => Fresh W W2) (by first | exact hga | exact Fresh.drew _) ?_
                clear y0 y1 y2 y3
                rintro W2 hw2
                have HIX := Lib.hid (HIW2.out.fresh hw2)
                clear hw2
                cases bb2
                · have hE31 : backE l = 31 := by rw [HBE.out, if_neg HNE.out, if_pos (by rw [HRT.out]; simp)]
                  have HE31 := Lib.hid hE31
                  clear hE31
                  have r0 := HIX.out.rs.cell 0
                  have r1 := HIX.out.rs.cell 1
                  have r2 := HIX.out.rs.cell 2
                  have r3 := HIX.out.rs.cell 3
                  have r4 := HIX.out.rs.cell 4
                  have r5 := HIX.out.rs.cell 5
                  have f0 := HIX.out.rs.frozen 0
                  have f1 := HIX.out.rs.frozen 1
                  have f2 := HIX.out.rs.frozen 2
                  have f3 := HIX.out.rs.frozen 3
                  have f4 := HIX.out.rs.frozen 4
                  have f5 := HIX.out.rs.frozen 5
                  unfold zeroR at r0 r1 r2 r3 r4 r5
                  simp at r0 r1 r2 r3 r4 r5
                  go_wp2_with fail
                  refine wx_gen (fun W => Blk W p 25 zeroR ∧ Fresh w W) ⟨by simpa [zeroR] using ((((((HIX.out.rs).set 0 (.string ⟨#[]⟩)).set 1 (.string ⟨#[]⟩)).set 2 (.string ⟨#[]⟩)).set 3 (.string ⟨#[]⟩)).set 4 (.slice none 0 0)).set 5 (.slice none 0 0), ((((((HIX.out.fr.step _ _ HQB2.out.2.2.2.1).step _ _ HQB2.out.2.2.2.1).step _ _ HQB2.out.2.2.2.1).step _ _ HQB2.out.2.2.2.1).step _ _ HQB2.out.2.2.2.1).step _ _ HQB2.out.2.2.2.1)⟩ ?_
                  rintro W9 ⟨hb9, hf9⟩
                  have q0 := hb9.cell 0
                  have q1 := hb9.cell 1
                  have q2 := hb9.cell 2
                  have q3 := hb9.cell 3
                  have q4 := hb9.cell 4
                  have q5 := hb9.cell 5
                  unfold zeroR at q0 q1 q2 q3 q4 q5
                  simp at q0 q1 q2 q3 q4 q5
                  rw [← HQB.out]
                  exact bodyPost_ret (v := .tuple #[.agg #[.string ⟨#[]⟩, .string ⟨#[]⟩, .string ⟨#[]⟩, .string ⟨#[]⟩, .slice none 0 0, .slice none 0 0], .int .i64 31]) (by simp [results, Tryz.results31, go_sem, q0, q1, q2, q3, q4, q5]) rfl (HNO.out W9 31 HE31.out.symm (by decide) hf9)
                go_wp2_with fail
                go_roundw
                case rel => exact ⟨2 + 1, by omega, by first | rfl | go_num, (fun _ => HT.out.1 (by omega)), (fun _ => HT.out.2.1 (by omega)), (fun _ => by trivial), (fun h => absurd h (by omega)), HIX.out⟩
                case measure => simp [intOf]
            · rw [show ((3 : Nat) : Int) = 3 from rfl]
              have hqk := HIL.out.pl
              have e0 := hqk.cell 9
              have e1 := hqk.cell 10
              have e2 := hqk.cell 11
              unfold plcA at e0 e1 e2
              simp at e0 e1 e2
              clear hqk
              go_upto_region 12 with fail
              refine wp_gen (fun W => Blk W wr.heap.size 72 #[.string autN, .pointer (some ⟨b, 3, none⟩), .func (.func 50) #[] #[]] ∧ Fresh wr W) ⟨Blk.new wr _ _, Fresh.alloc _ _⟩ ?_
              rintro W ⟨hbw, hfw⟩
              obtain ⟨pp, hpp⟩ : ∃ p, wr.heap.size = p := ⟨_, rfl⟩
              rw [hpp] at hbw ⊢
              clear hpp e0 e1 e2
              have HSK : Hid (∀ w', Fresh W w' → w'.cell? ⟨pp, 0, none⟩ = some (.string autN) ∧ w'.cell? ⟨pp, 1, none⟩ = some (.pointer (some ⟨b, 3, none⟩)) ∧ w'.cell? ⟨pp, 2, none⟩ = some (.func (.func 50) #[] #[]) ∧ w'.cell? ⟨b, 3, none⟩ = some (.string ta) ∧ Fresh W w') := Lib.hid (fun w' hw => ⟨(hbw.fresh hw).cell 0, (hbw.fresh hw).cell 1, (hbw.fresh hw).cell 2, (HROW.out _ (HIL.out.fresh (hfw.trans hw))).2.2.2.1, hw⟩)
              have HIW2 := Lib.hid (HIL.out.fresh hfw)
              clear hbw hfw HIL
              obtain ⟨y0, y1, y2, y3, _⟩ := HSK.out W (Fresh.refl _)
              go_region_held3 (fun w' => w'.cell? ⟨pp, 0, none⟩ = some (.string autN) ∧ w'.cell? ⟨pp, 1, none⟩ = some (.pointer (some ⟨b, 3, none⟩)) ∧ w'.cell? ⟨pp, 2, none⟩ = some (.func (.func 50) #[] #[]) ∧ w'.cell? ⟨b, 3, none⟩ = some (.string ta) ∧ Fresh W w')
                ((refine HSK.out _ ?_; first | with_reducible assumption | with_reducible exact Fresh.drew _))
                (first | (go_at_call 50; (with_reducible refine (HR3.out _).mono ?_); rintro e wa ⟨rfl, hwa⟩; have hga : Fresh W wa := by (rw [hwa]; first | with_reducible assumption | with_reducible exact Fresh.drew _)))
              all_goals
                refine wx_gen (fun W2 => Fresh W W2) (by first | exact hga | exact Fresh.drew _) ?_
                clear y0 y1 y2 y3
                rintro W2 hw2
                have HIX := Lib.hid (HIW2.out.fresh hw2)
                clear hw2
                cases bb3
                · have hE31 : backE l = 31 := by rw [HBE.out, if_neg HNE.out, if_pos (by rw [HRT.out]; simp)]
                  have HE31 := Lib.hid hE31
                  clear hE31
                  have r0 := HIX.out.rs.cell 0
                  have r1 := HIX.out.rs.cell 1
                  have r2 := HIX.out.rs.cell 2
                  have r3 := HIX.out.rs.cell 3
                  have r4 := HIX.out.rs.cell 4
                  have r5 := HIX.out.rs.cell 5
                  have f0 := HIX.out.rs.frozen 0
                  have f1 := HIX.out.rs.frozen 1
                  have f2 := HIX.out.rs.frozen 2
                  have f3 := HIX.out.rs.frozen 3
                  have f4 := HIX.out.rs.frozen 4
                  have f5 := HIX.out.rs.frozen 5
                  unfold zeroR at r0 r1 r2 r3 r4 r5
                  simp at r0 r1 r2 r3 r4 r5
                  go_wp2_with fail
                  refine wx_gen (fun W => Blk W p 25 zeroR ∧ Fresh w W) ⟨by simpa [zeroR] using ((((((HIX.out.rs).set 0 (.string ⟨#[]⟩)).set 1 (.string ⟨#[]⟩)).set 2 (.string ⟨#[]⟩)).set 3 (.string ⟨#[]⟩)).set 4 (.slice none 0 0)).set 5 (.slice none 0 0), ((((((HIX.out.fr.step _ _ HQB2.out.2.2.2.1).step _ _ HQB2.out.2.2.2.1).step _ _ HQB2.out.2.2.2.1).step _ _ HQB2.out.2.2.2.1).step _ _ HQB2.out.2.2.2.1).step _ _ HQB2.out.2.2.2.1)⟩ ?_
                  rintro W9 ⟨hb9, hf9⟩
                  have q0 := hb9.cell 0
                  have q1 := hb9.cell 1
                  have q2 := hb9.cell 2
                  have q3 := hb9.cell 3
                  have q4 := hb9.cell 4
                  have q5 := hb9.cell 5
                  unfold zeroR at q0 q1 q2 q3 q4 q5
                  simp at q0 q1 q2 q3 q4 q5
                  rw [← HQB.out]
                  exact bodyPost_ret (v := .tuple #[.agg #[.string ⟨#[]⟩, .string ⟨#[]⟩, .string ⟨#[]⟩, .string ⟨#[]⟩, .slice none 0 0, .slice none 0 0], .int .i64 31]) (by simp [results, Tryz.results31, go_sem, q0, q1, q2, q3, q4, q5]) rfl (HNO.out W9 31 HE31.out.symm (by decide) hf9)
                go_wp2_with fail
                go_roundw
                case rel => exact ⟨3 + 1, by omega, by first | rfl | go_num, (fun _ => HT.out.1 (by omega)), (fun _ => HT.out.2.1 (by omega)), (fun _ => HT.out.2.2.1 (by omega)), (fun _ => by trivial), HIX.out⟩
                case measure => simp [intOf]
            · rw [show ((4 : Nat) : Int) = 4 from rfl]
              obtain rfl := HT.out.1 (by omega)
              obtain rfl := HT.out.2.1 (by omega)
              obtain rfl := HT.out.2.2.1 (by omega)
              obtain rfl := HT.out.2.2.2 (by omega)
              go_wp2_with fail
              with_reducible refine (HCK.out _ HIL.out.fr).mono ?_
              rintro e w4 ⟨ck2, rfl, hck2, hf⟩
              subst hck2
              have HI4 := Lib.hid (HIL.out.fresh hf)
              clear hf
              by_cases hc0 : ck = 0
              rotate_left
              · have dc : ((ck : Int) != 0) = true := by simp; omega
                have hEC : backE l = ck := by rw [HBE.out, if_neg HNE.out, if_neg (by rw [HRT.out]; simp), HCKE.out, if_pos hc0]
                have HEC := Lib.hid hEC
                have HC0 := Lib.hid hc0
                clear hEC hc0
                have r0 := HI4.out.rs.cell 0
                have r1 := HI4.out.rs.cell 1
                have r2 := HI4.out.rs.cell 2
                have r3 := HI4.out.rs.cell 3
                have r4 := HI4.out.rs.cell 4
                have r5 := HI4.out.rs.cell 5
                have f0 := HI4.out.rs.frozen 0
                have f1 := HI4.out.rs.frozen 1
                have f2 := HI4.out.rs.frozen 2
                have f3 := HI4.out.rs.frozen 3
                have f4 := HI4.out.rs.frozen 4
                have f5 := HI4.out.rs.frozen 5
                unfold zeroR at r0 r1 r2 r3 r4 r5
                simp at r0 r1 r2 r3 r4 r5
                go_wp2_with fail
                refine wx_gen (fun W => Blk W p 25 zeroR ∧ Fresh w W) ⟨by simpa [zeroR] using ((((((HI4.out.rs).set 0 (.string ⟨#[]⟩)).set 1 (.string ⟨#[]⟩)).set 2 (.string ⟨#[]⟩)).set 3 (.string ⟨#[]⟩)).set 4 (.slice none 0 0)).set 5 (.slice none 0 0), ((((((HI4.out.fr.step _ _ HQB2.out.2.2.2.1).step _ _ HQB2.out.2.2.2.1).step _ _ HQB2.out.2.2.2.1).step _ _ HQB2.out.2.2.2.1).step _ _ HQB2.out.2.2.2.1).step _ _ HQB2.out.2.2.2.1)⟩ ?_
                rintro W9 ⟨hb9, hf9⟩
                have q0 := hb9.cell 0
                have q1 := hb9.cell 1
                have q2 := hb9.cell 2
                have q3 := hb9.cell 3
                have q4 := hb9.cell 4
                have q5 := hb9.cell 5
                unfold zeroR at q0 q1 q2 q3 q4 q5
                simp at q0 q1 q2 q3 q4 q5
                rw [← HQB.out]
                exact bodyPost_ret (v := .tuple #[.agg #[.string ⟨#[]⟩, .string ⟨#[]⟩, .string ⟨#[]⟩, .string ⟨#[]⟩, .slice none 0 0, .slice none 0 0], .int .i64 (ck : Int)]) (by simp [results, Tryz.results31, go_sem, q0, q1, q2, q3, q4, q5]) rfl (HNO.out W9 ck HEC.out.symm HC0.out hf9)
              have dc : ((ck : Int) != 0) = false := by rw [hc0]; rfl
              have HBE2 : Hid (backE l = if nvR 3 l = true then 0 else 32) := Lib.hid (by rw [HBE.out, if_neg HNE.out, if_neg (by rw [HRT.out]; simp), HCKE.out, if_neg (by simp [hc0])])
              clear hc0
              go_wp2_with fail
              go_loopw [95] (fun ix wr => ∃ i : Nat, i ≤ 3 ∧ ix = .int .i64 (i : Int) ∧ (∀ (j : Nat) y, j < i → l[j]? = some y → y.2 = (decide (3 ≤ j) && senB y.1.1)) ∧ BkI l w b q p 3 wr) (fun i _ => 3 - (intOf i).toNat)
              case atStart => exact ⟨0, by omega, rfl, (fun j y hj => by omega), HI4.out⟩
              case round =>
                obtain ⟨i, hi, rfl, hal, hI5⟩ := hrel
                have HI5 := Lib.hid hI5
                have HAL := Lib.hid hal
                clear hI5 hal
                by_cases hin : i < 3
                · have hin' : (i : Int) < (3 : Int) := by omega
                  have hin2 : (i : Int) < (3 : Int) := by omega
                  have hiw : IntKind.i64.wrap ((i : Int) + 1) = (i : Int) + 1 := IntWalk.i64_in _ (by omega)
                  obtain ⟨x, hx⟩ : ∃ x, l[i]? = some x := ⟨_, List.getElem?_eq_getElem (by rw [HN.out]; omega)⟩
                  obtain ⟨b9, o9, hbo, hb9, g0, g1, g2⟩ := HM.out.lnAt i x hx
                  injection hbo with hbo
                  injection hbo with hb8 ho8
                  subst hb8 ho8
                  have e0 := (HI5.out.fr.cell (p := ⟨b0, o0 + i * 3, none⟩) hb9).trans g0
                  have e1 := (HI5.out.fr.cell (p := ⟨b0, o0 + i * 3 + 1, none⟩) hb9).trans g1
                  have e2 := (HI5.out.fr.cell (p := ⟨b0, o0 + i * 3 + 2, none⟩) hb9).trans g2
                  have HX := Lib.hid hx
                  obtain ⟨⟨F1, F2⟩, nv⟩ := x
                  simp only at e0 e1 e2
                  have HSN := Lib.hid (fun w => cl_sen F1 w)
                  obtain ⟨sb, hsb⟩ : ∃ sb, senB F1 = sb := ⟨_, rfl⟩
                  rw [hsb] at HSN
                  have HSB := Lib.hid hsb
                  clear hx g0 g1 g2 hb9 hsb
                  have HBAD : Hid (nv ≠ (decide (3 ≤ i) && sb) → backE l = 32) := Lib.hid (fun h => by
                    rw [HBE2.out, if_neg]
                    intro hnv
                    apply h
                    have := nvR_at hnv HX.out
                    simp only at this
                    rw [HSB.out] at this
                    exact this)
                  have HGO : Hid (nv = (decide (3 ≤ i) && sb) → ∀ (j : Nat) y, j < i + 1 → l[j]? = some y → y.2 = (decide (3 ≤ j) && senB y.1.1)) := Lib.hid (fun h j y hj hy => by
                    by_cases e : j = i
                    · subst e
                      have h1 := HX.out
                      rw [hy] at h1
                      cases h1
                      simp only
                      rw [HSB.out]
                      exact h
                    · exact HAL.out j y (by omega) hy)
                  go_upto_region 21 with fail
                  refine wp_gen (fun W => Blk W wr.heap.size 38 #[.string F1, .string F2, .bool nv] ∧ Fresh wr W) ⟨Blk.new wr _ _, Fresh.alloc _ _⟩ ?_
                  rintro W5 ⟨hbw, hfw⟩
                  obtain ⟨yy, hyy⟩ : ∃ y, wr.heap.size = y := ⟨_, rfl⟩
                  rw [hyy] at hbw ⊢
                  clear hyy e0 e1 e2
                  obtain ⟨y0, y1, y2⟩ := hbw.c3
                  have HI6 := Lib.hid (HI5.out.fresh hfw)
                  clear hbw hfw
                  have hsplit : (3 ≤ i ∧ (decide (3 ≤ i)) = true) ∨ (i < 3 ∧ (decide (3 ≤ i)) = false) := by
                    by_cases h : 3 ≤ i
                    · exact .inl ⟨h, decide_eq_true h⟩
                    · exact .inr ⟨by omega, decide_eq_false h⟩
                  rcases hsplit with ⟨h3, h4⟩ | ⟨h3, h4⟩
                  · exfalso; omega
                  · have d1 : decide ((3 : Int) ≤ (i : Int)) = false := decide_eq_false (by omega)
                    rw [h4, Bool.false_and] at HBAD HGO
                    clear h3
                    cases nv
                    all_goals
                      go_quiet ((go_at_call 32; exact Calls.quiet_of_same (HSN.out _)))
                      all_goals
                        refine wx_gen (BkI l w b q p 3) (HI6.out.fresh (Fresh.drewN _ _)) ?_
                        clear y0 y1 y2
                        rintro W7 hI7
                        have HI7 := Lib.hid hI7
                        clear hI7
                        first
                          | (have HGO2 := Lib.hid (HGO.out rfl)
                             go_wp2_with fail
                             go_roundw
                             case rel => exact ⟨i + 1, by omega, by go_num, HGO2.out, HI7.out⟩
                             case measure => simp [intOf]; omega)
                          | (have HE32 := Lib.hid (HBAD.out (by decide))
                             have r0 := HI7.out.rs.cell 0
                             have r1 := HI7.out.rs.cell 1
                             have r2 := HI7.out.rs.cell 2
                             have r3 := HI7.out.rs.cell 3
                             have r4 := HI7.out.rs.cell 4
                             have r5 := HI7.out.rs.cell 5
                             have f0 := HI7.out.rs.frozen 0
                             have f1 := HI7.out.rs.frozen 1
                             have f2 := HI7.out.rs.frozen 2
                             have f3 := HI7.out.rs.frozen 3
                             have f4 := HI7.out.rs.frozen 4
                             have f5 := HI7.out.rs.frozen 5
                             unfold zeroR at r0 r1 r2 r3 r4 r5
                             simp at r0 r1 r2 r3 r4 r5
                             go_wp2_with fail
                             refine wx_gen (fun W => Blk W p 25 zeroR ∧ Fresh w W) ⟨by simpa [zeroR] using ((((((HI7.out.rs).set 0 (.string ⟨#[]⟩)).set 1 (.string ⟨#[]⟩)).set 2 (.string ⟨#[]⟩)).set 3 (.string ⟨#[]⟩)).set 4 (.slice none 0 0)).set 5 (.slice none 0 0), ((((((HI7.out.fr.step _ _ HQB2.out.2.2.2.1).step _ _ HQB2.out.2.2.2.1).step _ _ HQB2.out.2.2.2.1).step _ _ HQB2.out.2.2.2.1).step _ _ HQB2.out.2.2.2.1).step _ _ HQB2.out.2.2.2.1)⟩ ?_
                             rintro W9 ⟨hb9, hf9⟩
                             have q0 := hb9.cell 0
                             have q1 := hb9.cell 1
                             have q2 := hb9.cell 2
                             have q3 := hb9.cell 3
                             have q4 := hb9.cell 4
                             have q5 := hb9.cell 5
                             unfold zeroR at q0 q1 q2 q3 q4 q5
                             simp at q0 q1 q2 q3 q4 q5
                             rw [← HQB.out]
                             exact bodyPost_ret (v := .tuple #[.agg #[.string ⟨#[]⟩, .string ⟨#[]⟩, .string ⟨#[]⟩, .string ⟨#[]⟩, .slice none 0 0, .slice none 0 0], .int .i64 32]) (by simp [results, Tryz.results31, go_sem, q0, q1, q2, q3, q4, q5]) rfl (HNO.out W9 32 HE32.out.symm (by decide) hf9))
                · obtain rfl : i = 3 := by omega
                  have hE0 : backE l = 0 := by
                    rw [HBE2.out, if_pos (nvR_all (fun j y hy => HAL.out j y (by
                      have := (List.getElem?_eq_some_iff.1 hy).1
                      rw [HN.out] at this
                      omega) hy))]
                  have HE0 := Lib.hid hE0
                  clear hE0 hin
                  go_wp2_with fail
                  with_reducible refine (HFD.out _ HI5.out.fr).mono ?_
                  rintro e w6 ⟨P, rfl, hP, hmf, hf⟩
                  have HI6 := Lib.hid (HI5.out.fresh hf)
                  have HP6 := Lib.hid hP
                  have HMF := Lib.hid hmf
                  have HBP : Hid (P ≠ b ∧ P ≠ p) := Lib.hid (by
                    have h1 := HI5.out.row.lt
                    have h2 := HI5.out.rs.lt
                    omega)
                  clear hf hP hmf
                  have z4 := (HROW.out _ HI6.out).2.2.2.2.cell 4
                  have f4 := (HROW.out _ HI6.out).2.2.2.2.frozen 4
                  simp at z4
                  go_upto_region 25 with fail
                  refine wp_gen (fun W => Blk W b 25 #[.string tm, .string ts, .string tp, .string ta, .slice (some ⟨P, 0, none⟩) 0 0, .slice none 0 0] ∧ Blk W p 25 zeroR ∧ Fresh w W ∧ Many fldD 2 W (some ⟨P, 0, none⟩) (tl.map (·.1))) ⟨by simpa using (HROW.out _ HI6.out).2.2.2.2.set 4 (.slice (some ⟨P, 0, none⟩) 0 0), HI6.out.rs.far HQB2.out.2.1 _, HI6.out.fr.step _ _ HQB2.out.2.2.1, by have h0 : Only (fun k => k = b) w6 w6 := Only.of_fresh (Fresh.refl _); exact HMF.out.only (h0.step ⟨b, 4, none⟩ _ (.inl rfl)) (fun b' o' e => by cases e; exact HBP.out.1)⟩ ?_
                  rintro W8 ⟨h81, h82, h83, h84⟩
                  have H82 := Lib.hid h82
                  have H83 := Lib.hid h83
                  have H84 := Lib.hid h84
                  have v0 := h81.cell 0
                  have v1 := h81.cell 1
                  have v2 := h81.cell 2
                  have v3 := h81.cell 3
                  have v4 := h81.cell 4
                  have v5 := h81.cell 5
                  simp at v0 v1 v2 v3 v4 v5
                  clear z4 f4 h81 h82 h83 h84
                  have r0 := H82.out.cell 0
                  have r1 := H82.out.cell 1
                  have r2 := H82.out.cell 2
                  have r3 := H82.out.cell 3
                  have r4 := H82.out.cell 4
                  have r5 := H82.out.cell 5
                  have f0 := H82.out.frozen 0
                  have f1 := H82.out.frozen 1
                  have f2 := H82.out.frozen 2
                  have f3 := H82.out.frozen 3
                  have f4 := H82.out.frozen 4
                  have f5 := H82.out.frozen 5
                  unfold zeroR at r0 r1 r2 r3 r4 r5
                  simp at r0 r1 r2 r3 r4 r5
                  go_wp2_with fail
                  refine wx_gen (fun W => Blk W p 25 #[.string tm, .string ts, .string tp, .string ta, .slice (some ⟨P, 0, none⟩) 0 0, .slice none 0 0] ∧ Fresh w W ∧ Many fldD 2 W (some ⟨P, 0, none⟩) (tl.map (·.1))) ⟨by simpa [zeroR] using ((((((H82.out).set 0 (.string tm)).set 1 (.string ts)).set 2 (.string tp)).set 3 (.string ta)).set 4 (.slice (some ⟨P, 0, none⟩) 0 0)).set 5 (.slice none 0 0), ((((((H83.out.step _ _ HQB2.out.2.2.2.1).step _ _ HQB2.out.2.2.2.1).step _ _ HQB2.out.2.2.2.1).step _ _ HQB2.out.2.2.2.1).step _ _ HQB2.out.2.2.2.1).step _ _ HQB2.out.2.2.2.1), by have h0 : Only (fun k => k = p) W8 W8 := Only.of_fresh (Fresh.refl _); exact H84.out.only ((((((h0.step ⟨p, 0, none⟩ _ (.inl rfl)).step ⟨p, 1, none⟩ _ (.inl rfl)).step ⟨p, 2, none⟩ _ (.inl rfl)).step ⟨p, 3, none⟩ _ (.inl rfl)).step ⟨p, 4, none⟩ _ (.inl rfl)).step ⟨p, 5, none⟩ _ (.inl rfl)) (fun b' o' e => by cases e; exact HBP.out.2)⟩ ?_
                  rintro W9 ⟨hb9, hf9, hm9⟩
                  have q0 := hb9.cell 0
                  have q1 := hb9.cell 1
                  have q2 := hb9.cell 2
                  have q3 := hb9.cell 3
                  have q4 := hb9.cell 4
                  have q5 := hb9.cell 5
                  simp at q0 q1 q2 q3 q4 q5
                  rw [← HQB.out]
                  exact bodyPost_ret (v := .tuple #[.agg #[.string tm, .string ts, .string tp, .string ta, .slice (some ⟨P, 0, none⟩) 0 0, .slice none 0 0], .int .i64 0]) (by simp [results, Tryz.results31, go_sem, q0, q1, q2, q3, q4, q5]) rfl (HFIN.out _ W9 HE0.out hm9 hf9)
        have x1 : (c0 ≤ 3) = False := by simp; omega
        have x2 : (c0 - 3 = 0) = False := by simp; omega
        obtain ⟨tl, htl⟩ : ∃ tl, l.drop 3 = tl := ⟨_, rfl⟩
        have HTLN : Hid (tl.length = 0) := Lib.hid (by have h := HN.out; rw [← htl, List.length_drop]; omega)
        have hmtl : Many lnD 3 w (some ⟨b0, o0 + 9, none⟩) tl := by rw [← htl]; exact many_dropL HM.out 3
        have hstl : ∀ x ∈ tl, x.1.2.size ≤ 1000000 := fun x hx => (HS.out x (by rw [← htl] at hx; exact List.mem_of_mem_drop hx)).2
        obtain ⟨ps, hps⟩ : ∃ ps, psB tl = ps := ⟨_, rfl⟩
        obtain ⟨ck, hck⟩ : ∃ ck, chkR tl = ck := ⟨_, rfl⟩
        have HPS := Lib.hid (fun W (h : Fresh w W) => rq_pseudo (some ⟨b0, o0 + 9, none⟩) (c0 - 3) tl W (hmtl.fresh h) (by rw [HTLN.out]; omega) ps hps)
        have HCK := Lib.hid (fun W (h : Fresh w W) => cl_check (some ⟨b0, o0 + 9, none⟩) (c0 - 3) tl W (hmtl.fresh h) (by rw [HTLN.out]; omega) hstl)
        have HFD := Lib.hid (fun W (h : Fresh w W) => de_fields (some ⟨b0, o0 + 9, none⟩) (c0 - 3) tl W (hmtl.fresh h) (by rw [HTLN.out]; omega))
        unfold ChkP at HCK
        unfold FldsP at HFD
        rw [HTLN.out] at HPS HCK HFD
        rw [hck] at HCK
        obtain ⟨tm, htm⟩ : ∃ t, txtR l 3 0 = t := ⟨_, rfl⟩
        obtain ⟨ts, hts⟩ : ∃ t, txtR l 3 1 = t := ⟨_, rfl⟩
        obtain ⟨tp, htp⟩ : ∃ t, txtR l 3 2 = t := ⟨_, rfl⟩
        obtain ⟨ta, hta⟩ : ∃ t, txtR l 3 3 = t := ⟨_, rfl⟩
        have z0 := txtR_size (n := 3) (k := 0) (fun x hx => (HS.out x hx).2)
        have z2 := txtR_size (n := 3) (k := 2) (fun x hx => (HS.out x hx).2)
        have z3 := txtR_size (n := 3) (k := 3) (fun x hx => (HS.out x hx).2)
        rw [htm] at z0
        rw [htp] at z2
        rw [hta] at z3
        have HR0 := Lib.hid (fun w => rq_method tm w (by omega))
        have HR1 := Lib.hid (fun w => rq_scheme ts w)
        have HR2 := Lib.hid (fun w => rq_path tp w (by omega))
        have HR3 := Lib.hid (fun w => rq_visible ta w (by omega))
        obtain ⟨bb0, hb0'⟩ : ∃ b, mthB tm.data.toList = b := ⟨_, rfl⟩
        obtain ⟨bb1, hb1'⟩ : ∃ b, schB ts = b := ⟨_, rfl⟩
        obtain ⟨bb2, hb2'⟩ : ∃ b, pthB tp = b := ⟨_, rfl⟩
        obtain ⟨bb3, hb3'⟩ : ∃ b, visB ta.data.toList = b := ⟨_, rfl⟩
        have HRT : Hid (rightR tm ts tp ta = (bb0 && (bb1 && (bb2 && bb3)))) := Lib.hid (by unfold rightR; rw [hb0', hb1', hb2', hb3'])
        rw [hb0'] at HR0
        rw [hb1'] at HR1
        rw [hb2'] at HR2
        rw [hb3'] at HR3
        have HROW : Hid (∀ W, BkI l w b q p 3 W → W.cell? ⟨b, 0, none⟩ = some (.string tm) ∧ W.cell? ⟨b, 1, none⟩ = some (.string ts) ∧ W.cell? ⟨b, 2, none⟩ = some (.string tp) ∧ W.cell? ⟨b, 3, none⟩ = some (.string ta) ∧ Blk W b 25 #[.string tm, .string ts, .string tp, .string ta, .slice none 0 0, .slice none 0 0]) := Lib.hid (fun W h => by
          have hr := h.row
          unfold arrB at hr
          rw [htm, hts, htp, hta] at hr
          exact ⟨hr.cell 0, hr.cell 1, hr.cell 2, hr.cell 3, hr⟩)
        have HBE : Hid (backE l = if (3 = 4 ∧ ta.data.toList = []) ∨ psB tl = true then 32 else if rightR tm ts tp ta = false then 31 else if chkR tl ≠ 0 then chkR tl else if nvR 3 l = true then 0 else 32) := Lib.hid (by unfold backE; rw [hmm, htm, hts, htp, hta, htl, if_neg (by omega)])
        have HPSE := Lib.hid hps
        have HCKE := Lib.hid hck
        have HFIN : Hid (∀ (A : Option Addr) W, backE l = 0 → Many fldD 2 W A (tl.map (·.1)) → Fresh w W → PP (.returned (.tuple #[.agg #[.string tm, .string ts, .string tp, .string ta, .slice A 0 0, .slice none 0 0], .int .i64 0])) W) := Lib.hid (fun A W h0 hm hf => HYES.out W tm ts tp ta A 0 h0.symm (by rw [hmm]; exact ⟨htm.symm, hts.symm, htp.symm, hta.symm, by rw [htl, HTLN.out], by rw [htl]; exact hm⟩) hf)
        clear hmtl hstl hps hck htm hts htp hta z0 z2 z3 hb0' hb1' hb2' hb3' htl
        obtain ⟨_, _, _, t3, _⟩ := HROW.out W HIW.out
        go_wp2_with fail
        with_reducible refine (HPS.out _ HIW.out.fr).mono ?_
        rintro e w3 ⟨rfl, hf⟩
        have HI3 := Lib.hid (HIW.out.fresh hf)
        clear hf t3
        cases ps
        rotate_left
        · have hE32 : backE l = 32 := by rw [HBE.out, if_pos (.inr HPSE.out)]
          have HE32 := Lib.hid hE32
          clear hE32
          have r0 := HI3.out.rs.cell 0
          have r1 := HI3.out.rs.cell 1
          have r2 := HI3.out.rs.cell 2
          have r3 := HI3.out.rs.cell 3
          have r4 := HI3.out.rs.cell 4
          have r5 := HI3.out.rs.cell 5
          have f0 := HI3.out.rs.frozen 0
          have f1 := HI3.out.rs.frozen 1
          have f2 := HI3.out.rs.frozen 2
          have f3 := HI3.out.rs.frozen 3
          have f4 := HI3.out.rs.frozen 4
          have f5 := HI3.out.rs.frozen 5
          unfold zeroR at r0 r1 r2 r3 r4 r5
          simp at r0 r1 r2 r3 r4 r5
          go_wp2_with fail
          refine wx_gen (fun W => Blk W p 25 zeroR ∧ Fresh w W) ⟨by simpa [zeroR] using ((((((HI3.out.rs).set 0 (.string ⟨#[]⟩)).set 1 (.string ⟨#[]⟩)).set 2 (.string ⟨#[]⟩)).set 3 (.string ⟨#[]⟩)).set 4 (.slice none 0 0)).set 5 (.slice none 0 0), ((((((HI3.out.fr.step _ _ HQB2.out.2.2.2.1).step _ _ HQB2.out.2.2.2.1).step _ _ HQB2.out.2.2.2.1).step _ _ HQB2.out.2.2.2.1).step _ _ HQB2.out.2.2.2.1).step _ _ HQB2.out.2.2.2.1)⟩ ?_
          rintro W9 ⟨hb9, hf9⟩
          have q0 := hb9.cell 0
          have q1 := hb9.cell 1
          have q2 := hb9.cell 2
          have q3 := hb9.cell 3
          have q4 := hb9.cell 4
          have q5 := hb9.cell 5
          unfold zeroR at q0 q1 q2 q3 q4 q5
          simp at q0 q1 q2 q3 q4 q5
          rw [← HQB.out]
          exact bodyPost_ret (v := .tuple #[.agg #[.string ⟨#[]⟩, .string ⟨#[]⟩, .string ⟨#[]⟩, .string ⟨#[]⟩, .slice none 0 0, .slice none 0 0], .int .i64 32]) (by simp [results, Tryz.results31, go_sem, q0, q1, q2, q3, q4, q5]) rfl (HNO.out W9 32 HE32.out.symm (by decide) hf9)
        have HNE : Hid (¬ ((3 = 4 ∧ ta.data.toList = []) ∨ psB tl = true)) := Lib.hid (fun h => by rcases h with h | h; exact absurd h.1 (by decide); rw [HPSE.out] at h; cases h)
        go_wp2_with fail
        go_loopw [71] (fun ix wr => ∃ k : Nat, k ≤ 4 ∧ ix = .int .i64 (k : Int) ∧ (0 < k → bb0 = true) ∧ (1 < k → bb1 = true) ∧ (2 < k → bb2 = true) ∧ (3 < k → bb3 = true) ∧ BkI l w b q p 3 wr) (fun i _ => 4 - (intOf i).toNat)
        case atStart => exact ⟨0, by omega, rfl, (fun h => by omega), (fun h => by omega), (fun h => by omega), (fun h => by omega), HI3.out⟩
        case round =>
          obtain ⟨k, hk, rfl, ht0, ht1, ht2, ht3, hIL⟩ := hrel
          have HIL := Lib.hid hIL
          have HT := Lib.hid (And.intro ht0 (And.intro ht1 (And.intro ht2 ht3)))
          clear hIL ht0 ht1 ht2 ht3
          rcases (show k = 0 ∨ k = 1 ∨ k = 2 ∨ k = 3 ∨ k = 4 by omega) with rfl | rfl | rfl | rfl | rfl
          · rw [show ((0 : Nat) : Int) = 0 from rfl]
            have hqk := HIL.out.pl
            have e0 := hqk.cell 0
            have e1 := hqk.cell 1
            have e2 := hqk.cell 2
            unfold plcA at e0 e1 e2
            simp at e0 e1 e2
            clear hqk
            go_upto_region 12 with fail
            refine wp_gen (fun W => Blk W wr.heap.size 72 #[.string mthN, .pointer (some ⟨b, 0, none⟩), .func (.func 47) #[] #[]] ∧ Fresh wr W) ⟨Blk.new wr _ _, Fresh.alloc _ _⟩ ?_
            rintro W ⟨hbw, hfw⟩
            obtain ⟨pp, hpp⟩ : ∃ p, wr.heap.size = p := ⟨_, rfl⟩
            rw [hpp] at hbw ⊢
            clear hpp e0 e1 e2
            have HSK : Hid (∀ w', Fresh W w' → w'.cell? ⟨pp, 0, none⟩ = some (.string mthN) ∧ w'.cell? ⟨pp, 1, none⟩ = some (.pointer (some ⟨b, 0, none⟩)) ∧ w'.cell? ⟨pp, 2, none⟩ = some (.func (.func 47) #[] #[]) ∧ w'.cell? ⟨b, 0, none⟩ = some (.string tm) ∧ Fresh W w') := Lib.hid (fun w' hw => ⟨(hbw.fresh hw).cell 0, (hbw.fresh hw).cell 1, (hbw.fresh hw).cell 2, (HROW.out _ (HIL.out.fresh (hfw.trans hw))).1, hw⟩)
            have HIW2 := Lib.hid (HIL.out.fresh hfw)
            clear hbw hfw HIL
            obtain ⟨y0, y1, y2, y3, _⟩ := HSK.out W (Fresh.refl _)
            go_region_held3 (fun w' => w'.cell? ⟨pp, 0, none⟩ = some (.string mthN) ∧ w'.cell? ⟨pp, 1, none⟩ = some (.pointer (some ⟨b, 0, none⟩)) ∧ w'.cell? ⟨pp, 2, none⟩ = some (.func (.func 47) #[] #[]) ∧ w'.cell? ⟨b, 0, none⟩ = some (.string tm) ∧ Fresh W w')
              ((refine HSK.out _ ?_; first | with_reducible assumption | with_reducible exact Fresh.drew _))
              (first | (go_at_call 47; (with_reducible refine (HR0.out _).mono ?_); rintro e wa ⟨rfl, hwa⟩; have hga : Fresh W wa := by (rw [hwa]; first | with_reducible assumption | with_reducible exact Fresh.drew _)))
            all_goals
              refine wx_gen (fun W2 => Fresh W W2) (by first | exact hga | exact Fresh.drew _) ?_
              clear y0 y1 y2 y3
              rintro W2 hw2
              have HIX := Lib.hid (HIW2.out.fresh hw2)
              clear hw2
              cases bb0
              · have hE31 : backE l = 31 := by rw [HBE.out, if_neg HNE.out, if_pos (by rw [HRT.out]; simp)]
                have HE31 := Lib.hid hE31
                clear hE31
                have r0 := HIX.out.rs.cell 0
                have r1 := HIX.out.rs.cell 1
                have r2 := HIX.out.rs.cell 2
                have r3 := HIX.out.rs.cell 3
                have r4 := HIX.out.rs.cell 4
                have r5 := HIX.out.rs.cell 5
                have f0 := HIX.out.rs.frozen 0
                have f1 := HIX.out.rs.frozen 1
                have f2 := HIX.out.rs.frozen 2
                have f3 := HIX.out.rs.frozen 3
                have f4 := HIX.out.rs.frozen 4
                have f5 := HIX.out.rs.frozen 5
                unfold zeroR at r0 r1 r2 r3 r4 r5
                simp at r0 r1 r2 r3 r4 r5
                go_wp2_with fail
                refine wx_gen (fun W => Blk W p 25 zeroR ∧ Fresh w W) ⟨by simpa [zeroR] using ((((((HIX.out.rs).set 0 (.string ⟨#[]⟩)).set 1 (.string ⟨#[]⟩)).set 2 (.string ⟨#[]⟩)).set 3 (.string ⟨#[]⟩)).set 4 (.slice none 0 0)).set 5 (.slice none 0 0), ((((((HIX.out.fr.step _ _ HQB2.out.2.2.2.1).step _ _ HQB2.out.2.2.2.1).step _ _ HQB2.out.2.2.2.1).step _ _ HQB2.out.2.2.2.1).step _ _ HQB2.out.2.2.2.1).step _ _ HQB2.out.2.2.2.1)⟩ ?_
                rintro W9 ⟨hb9, hf9⟩
                have q0 := hb9.cell 0
                have q1 := hb9.cell 1
                have q2 := hb9.cell 2
                have q3 := hb9.cell 3
                have q4 := hb9.cell 4
                have q5 := hb9.cell 5
                unfold zeroR at q0 q1 q2 q3 q4 q5
                simp at q0 q1 q2 q3 q4 q5
                rw [← HQB.out]
                exact bodyPost_ret (v := .tuple #[.agg #[.string ⟨#[]⟩, .string ⟨#[]⟩, .string ⟨#[]⟩, .string ⟨#[]⟩, .slice none 0 0, .slice none 0 0], .int .i64 31]) (by simp [results, Tryz.results31, go_sem, q0, q1, q2, q3, q4, q5]) rfl (HNO.out W9 31 HE31.out.symm (by decide) hf9)
              go_wp2_with fail
              go_roundw
              case rel => exact ⟨0 + 1, by omega, by first | rfl | go_num, (fun _ => by trivial), (fun h => absurd h (by omega)), (fun h => absurd h (by omega)), (fun h => absurd h (by omega)), HIX.out⟩
              case measure => simp [intOf]
          · rw [show ((1 : Nat) : Int) = 1 from rfl]
            have hqk := HIL.out.pl
            have e0 := hqk.cell 3
            have e1 := hqk.cell 4
            have e2 := hqk.cell 5
            unfold plcA at e0 e1 e2
            simp at e0 e1 e2
            clear hqk
            go_upto_region 12 with fail
            refine wp_gen (fun W => Blk W wr.heap.size 72 #[.string schN, .pointer (some ⟨b, 1, none⟩), .func (.func 48) #[] #[]] ∧ Fresh wr W) ⟨Blk.new wr _ _, Fresh.alloc _ _⟩ ?_
            rintro W ⟨hbw, hfw⟩
            obtain ⟨pp, hpp⟩ : ∃ p, wr.heap.size = p := ⟨_, rfl⟩
            rw [hpp] at hbw ⊢
            clear hpp e0 e1 e2
            have HSK : Hid (∀ w', Fresh W w' → w'.cell? ⟨pp, 0, none⟩ = some (.string schN) ∧ w'.cell? ⟨pp, 1, none⟩ = some (.pointer (some ⟨b, 1, none⟩)) ∧ w'.cell? ⟨pp, 2, none⟩ = some (.func (.func 48) #[] #[]) ∧ w'.cell? ⟨b, 1, none⟩ = some (.string ts) ∧ Fresh W w') := Lib.hid (fun w' hw => ⟨(hbw.fresh hw).cell 0, (hbw.fresh hw).cell 1, (hbw.fresh hw).cell 2, (HROW.out _ (HIL.out.fresh (hfw.trans hw))).2.1, hw⟩)
            have HIW2 := Lib.hid (HIL.out.fresh hfw)
            clear hbw hfw HIL
            obtain ⟨y0, y1, y2, y3, _⟩ := HSK.out W (Fresh.refl _)
            go_region_held3 (fun w' => w'.cell? ⟨pp, 0, none⟩ = some (.string schN) ∧ w'.cell? ⟨pp, 1, none⟩ = some (.pointer (some ⟨b, 1, none⟩)) ∧ w'.cell? ⟨pp, 2, none⟩ = some (.func (.func 48) #[] #[]) ∧ w'.cell? ⟨b, 1, none⟩ = some (.string ts) ∧ Fresh W w')
              ((refine HSK.out _ ?_; first | with_reducible assumption | with_reducible exact Fresh.drew _))
              (first | (go_at_call 48; (with_reducible refine (HR1.out _).mono ?_); rintro e wa ⟨rfl, hwa⟩; have hga : Fresh W wa := by (rw [hwa]; first | with_reducible assumption | with_reducible exact Fresh.drew _)))
            all_goals
              refine wx_gen (fun W2 => Fresh W W2) (by first | exact hga | exact Fresh.drew _) ?_
              clear y0 y1 y2 y3
              rintro W2 hw2
              have HIX := Lib.hid (HIW2.out.fresh hw2)
              clear hw2
              cases bb1
              · have hE31 : backE l = 31 := by rw [HBE.out, if_neg HNE.out, if_pos (by rw [HRT.out]; simp)]
                have HE31 := Lib.hid hE31
                clear hE31
                have r0 := HIX.out.rs.cell 0
                have r1 := HIX.out.rs.cell 1
                have r2 := HIX.out.rs.cell 2
                have r3 := HIX.out.rs.cell 3
                have r4 := HIX.out.rs.cell 4
                have r5 := HIX.out.rs.cell 5
                have f0 := HIX.out.rs.frozen 0
                have f1 := HIX.out.rs.frozen 1
                have f2 := HIX.out.rs.frozen 2
                have f3 := HIX.out.rs.frozen 3
                have f4 := HIX.out.rs.frozen 4
                have f5 := HIX.out.rs.frozen 5
                unfold zeroR at r0 r1 r2 r3 r4 r5
                simp at r0 r1 r2 r3 r4 r5
                go_wp2_with fail
                refine wx_gen (fun W => Blk W p 25 zeroR ∧ Fresh w W) ⟨by simpa [zeroR] using ((((((HIX.out.rs).set 0 (.string ⟨#[]⟩)).set 1 (.string ⟨#[]⟩)).set 2 (.string ⟨#[]⟩)).set 3 (.string ⟨#[]⟩)).set 4 (.slice none 0 0)).set 5 (.slice none 0 0), ((((((HIX.out.fr.step _ _ HQB2.out.2.2.2.1).step _ _ HQB2.out.2.2.2.1).step _ _ HQB2.out.2.2.2.1).step _ _ HQB2.out.2.2.2.1).step _ _ HQB2.out.2.2.2.1).step _ _ HQB2.out.2.2.2.1)⟩ ?_
                rintro W9 ⟨hb9, hf9⟩
                have q0 := hb9.cell 0
                have q1 := hb9.cell 1
                have q2 := hb9.cell 2
                have q3 := hb9.cell 3
                have q4 := hb9.cell 4
                have q5 := hb9.cell 5
                unfold zeroR at q0 q1 q2 q3 q4 q5
                simp at q0 q1 q2 q3 q4 q5
                rw [← HQB.out]
                exact bodyPost_ret (v := .tuple #[.agg #[.string ⟨#[]⟩, .string ⟨#[]⟩, .string ⟨#[]⟩, .string ⟨#[]⟩, .slice none 0 0, .slice none 0 0], .int .i64 31]) (by simp [results, Tryz.results31, go_sem, q0, q1, q2, q3, q4, q5]) rfl (HNO.out W9 31 HE31.out.symm (by decide) hf9)
              go_wp2_with fail
              go_roundw
              case rel => exact ⟨1 + 1, by omega, by first | rfl | go_num, (fun _ => HT.out.1 (by omega)), (fun _ => by trivial), (fun h => absurd h (by omega)), (fun h => absurd h (by omega)), HIX.out⟩
              case measure => simp [intOf]
          · rw [show ((2 : Nat) : Int) = 2 from rfl]
            have hqk := HIL.out.pl
            have e0 := hqk.cell 6
            have e1 := hqk.cell 7
            have e2 := hqk.cell 8
            unfold plcA at e0 e1 e2
            simp at e0 e1 e2
            clear hqk
            go_upto_region 12 with fail
            refine wp_gen (fun W => Blk W wr.heap.size 72 #[.string pthN, .pointer (some ⟨b, 2, none⟩), .func (.func 49) #[] #[]] ∧ Fresh wr W) ⟨Blk.new wr _ _, Fresh.alloc _ _⟩ ?_
            rintro W ⟨hbw, hfw⟩
            obtain ⟨pp, hpp⟩ : ∃ p, wr.heap.size = p := ⟨_, rfl⟩
            rw [hpp] at hbw ⊢
            clear hpp e0 e1 e2
            have HSK : Hid (∀ w', Fresh W w' → w'.cell? ⟨pp, 0, none⟩ = some (.string pthN) ∧ w'.cell? ⟨pp, 1, none⟩ = some (.pointer (some ⟨b, 2, none⟩)) ∧ w'.cell? ⟨pp, 2, none⟩ = some (.func (.func 49) #[] #[]) ∧ w'.cell? ⟨b, 2, none⟩ = some (.string tp) ∧ Fresh W w') := Lib.hid (fun w' hw => ⟨(hbw.fresh hw).cell 0, (hbw.fresh hw).cell 1, (hbw.fresh hw).cell 2, (HROW.out _ (HIL.out.fresh (hfw.trans hw))).2.2.1, hw⟩)
            have HIW2 := Lib.hid (HIL.out.fresh hfw)
            clear hbw hfw HIL
            obtain ⟨y0, y1, y2, y3, _⟩ := HSK.out W (Fresh.refl _)
            go_region_held3 (fun w' => w'.cell? ⟨pp, 0, none⟩ = some (.string pthN) ∧ w'.cell? ⟨pp, 1, none⟩ = some (.pointer (some ⟨b, 2, none⟩)) ∧ w'.cell? ⟨pp, 2, none⟩ = some (.func (.func 49) #[] #[]) ∧ w'.cell? ⟨b, 2, none⟩ = some (.string tp) ∧ Fresh W w')
              ((refine HSK.out _ ?_; first | with_reducible assumption | with_reducible exact Fresh.drew _))
              (first | (go_at_call 49; (with_reducible refine (HR2.out _).mono ?_); rintro e wa ⟨rfl, hwa⟩; have hga : Fresh W wa := by (rw [hwa]; first | with_reducible assumption | with_reducible exact Fresh.drew _)))
            all_goals
              refine wx_gen (fun W2 => Fresh W W2) (by first | exact hga | exact Fresh.drew _) ?_
              clear y0 y1 y2 y3
              rintro W2 hw2
              have HIX := Lib.hid (HIW2.out.fresh hw2)
              clear hw2
              cases bb2
              · have hE31 : backE l = 31 := by rw [HBE.out, if_neg HNE.out, if_pos (by rw [HRT.out]; simp)]
                have HE31 := Lib.hid hE31
                clear hE31
                have r0 := HIX.out.rs.cell 0
                have r1 := HIX.out.rs.cell 1
                have r2 := HIX.out.rs.cell 2
                have r3 := HIX.out.rs.cell 3
                have r4 := HIX.out.rs.cell 4
                have r5 := HIX.out.rs.cell 5
                have f0 := HIX.out.rs.frozen 0
                have f1 := HIX.out.rs.frozen 1
                have f2 := HIX.out.rs.frozen 2
                have f3 := HIX.out.rs.frozen 3
                have f4 := HIX.out.rs.frozen 4
                have f5 := HIX.out.rs.frozen 5
                unfold zeroR at r0 r1 r2 r3 r4 r5
                simp at r0 r1 r2 r3 r4 r5
                go_wp2_with fail
                refine wx_gen (fun W => Blk W p 25 zeroR ∧ Fresh w W) ⟨by simpa [zeroR] using ((((((HIX.out.rs).set 0 (.string ⟨#[]⟩)).set 1 (.string ⟨#[]⟩)).set 2 (.string ⟨#[]⟩)).set 3 (.string ⟨#[]⟩)).set 4 (.slice none 0 0)).set 5 (.slice none 0 0), ((((((HIX.out.fr.step _ _ HQB2.out.2.2.2.1).step _ _ HQB2.out.2.2.2.1).step _ _ HQB2.out.2.2.2.1).step _ _ HQB2.out.2.2.2.1).step _ _ HQB2.out.2.2.2.1).step _ _ HQB2.out.2.2.2.1)⟩ ?_
                rintro W9 ⟨hb9, hf9⟩
                have q0 := hb9.cell 0
                have q1 := hb9.cell 1
                have q2 := hb9.cell 2
                have q3 := hb9.cell 3
                have q4 := hb9.cell 4
                have q5 := hb9.cell 5
                unfold zeroR at q0 q1 q2 q3 q4 q5
                simp at q0 q1 q2 q3 q4 q5
                rw [← HQB.out]
                exact bodyPost_ret (v := .tuple #[.agg #[.string ⟨#[]⟩, .string ⟨#[]⟩, .string ⟨#[]⟩, .string ⟨#[]⟩, .slice none 0 0, .slice none 0 0], .int .i64 31]) (by simp [results, Tryz.results31, go_sem, q0, q1, q2, q3, q4, q5]) rfl (HNO.out W9 31 HE31.out.symm (by decide) hf9)
              go_wp2_with fail
              go_roundw
              case rel => exact ⟨2 + 1, by omega, by first | rfl | go_num, (fun _ => HT.out.1 (by omega)), (fun _ => HT.out.2.1 (by omega)), (fun _ => by trivial), (fun h => absurd h (by omega)), HIX.out⟩
              case measure => simp [intOf]
          · rw [show ((3 : Nat) : Int) = 3 from rfl]
            have hqk := HIL.out.pl
            have e0 := hqk.cell 9
            have e1 := hqk.cell 10
            have e2 := hqk.cell 11
            unfold plcA at e0 e1 e2
            simp at e0 e1 e2
            clear hqk
            go_upto_region 12 with fail
            refine wp_gen (fun W => Blk W wr.heap.size 72 #[.string autN, .pointer (some ⟨b, 3, none⟩), .func (.func 50) #[] #[]] ∧ Fresh wr W) ⟨Blk.new wr _ _, Fresh.alloc _ _⟩ ?_
            rintro W ⟨hbw, hfw⟩
            obtain ⟨pp, hpp⟩ : ∃ p, wr.heap.size = p := ⟨_, rfl⟩
            rw [hpp] at hbw ⊢
            clear hpp e0 e1 e2
            have HSK : Hid (∀ w', Fresh W w' → w'.cell? ⟨pp, 0, none⟩ = some (.string autN) ∧ w'.cell? ⟨pp, 1, none⟩ = some (.pointer (some ⟨b, 3, none⟩)) ∧ w'.cell? ⟨pp, 2, none⟩ = some (.func (.func 50) #[] #[]) ∧ w'.cell? ⟨b, 3, none⟩ = some (.string ta) ∧ Fresh W w') := Lib.hid (fun w' hw => ⟨(hbw.fresh hw).cell 0, (hbw.fresh hw).cell 1, (hbw.fresh hw).cell 2, (HROW.out _ (HIL.out.fresh (hfw.trans hw))).2.2.2.1, hw⟩)
            have HIW2 := Lib.hid (HIL.out.fresh hfw)
            clear hbw hfw HIL
            obtain ⟨y0, y1, y2, y3, _⟩ := HSK.out W (Fresh.refl _)
            go_region_held3 (fun w' => w'.cell? ⟨pp, 0, none⟩ = some (.string autN) ∧ w'.cell? ⟨pp, 1, none⟩ = some (.pointer (some ⟨b, 3, none⟩)) ∧ w'.cell? ⟨pp, 2, none⟩ = some (.func (.func 50) #[] #[]) ∧ w'.cell? ⟨b, 3, none⟩ = some (.string ta) ∧ Fresh W w')
              ((refine HSK.out _ ?_; first | with_reducible assumption | with_reducible exact Fresh.drew _))
              (first | (go_at_call 50; (with_reducible refine (HR3.out _).mono ?_); rintro e wa ⟨rfl, hwa⟩; have hga : Fresh W wa := by (rw [hwa]; first | with_reducible assumption | with_reducible exact Fresh.drew _)))
            all_goals
              refine wx_gen (fun W2 => Fresh W W2) (by first | exact hga | exact Fresh.drew _) ?_
              clear y0 y1 y2 y3
              rintro W2 hw2
              have HIX := Lib.hid (HIW2.out.fresh hw2)
              clear hw2
              cases bb3
              · have hE31 : backE l = 31 := by rw [HBE.out, if_neg HNE.out, if_pos (by rw [HRT.out]; simp)]
                have HE31 := Lib.hid hE31
                clear hE31
                have r0 := HIX.out.rs.cell 0
                have r1 := HIX.out.rs.cell 1
                have r2 := HIX.out.rs.cell 2
                have r3 := HIX.out.rs.cell 3
                have r4 := HIX.out.rs.cell 4
                have r5 := HIX.out.rs.cell 5
                have f0 := HIX.out.rs.frozen 0
                have f1 := HIX.out.rs.frozen 1
                have f2 := HIX.out.rs.frozen 2
                have f3 := HIX.out.rs.frozen 3
                have f4 := HIX.out.rs.frozen 4
                have f5 := HIX.out.rs.frozen 5
                unfold zeroR at r0 r1 r2 r3 r4 r5
                simp at r0 r1 r2 r3 r4 r5
                go_wp2_with fail
                refine wx_gen (fun W => Blk W p 25 zeroR ∧ Fresh w W) ⟨by simpa [zeroR] using ((((((HIX.out.rs).set 0 (.string ⟨#[]⟩)).set 1 (.string ⟨#[]⟩)).set 2 (.string ⟨#[]⟩)).set 3 (.string ⟨#[]⟩)).set 4 (.slice none 0 0)).set 5 (.slice none 0 0), ((((((HIX.out.fr.step _ _ HQB2.out.2.2.2.1).step _ _ HQB2.out.2.2.2.1).step _ _ HQB2.out.2.2.2.1).step _ _ HQB2.out.2.2.2.1).step _ _ HQB2.out.2.2.2.1).step _ _ HQB2.out.2.2.2.1)⟩ ?_
                rintro W9 ⟨hb9, hf9⟩
                have q0 := hb9.cell 0
                have q1 := hb9.cell 1
                have q2 := hb9.cell 2
                have q3 := hb9.cell 3
                have q4 := hb9.cell 4
                have q5 := hb9.cell 5
                unfold zeroR at q0 q1 q2 q3 q4 q5
                simp at q0 q1 q2 q3 q4 q5
                rw [← HQB.out]
                exact bodyPost_ret (v := .tuple #[.agg #[.string ⟨#[]⟩, .string ⟨#[]⟩, .string ⟨#[]⟩, .string ⟨#[]⟩, .slice none 0 0, .slice none 0 0], .int .i64 31]) (by simp [results, Tryz.results31, go_sem, q0, q1, q2, q3, q4, q5]) rfl (HNO.out W9 31 HE31.out.symm (by decide) hf9)
              go_wp2_with fail
              go_roundw
              case rel => exact ⟨3 + 1, by omega, by first | rfl | go_num, (fun _ => HT.out.1 (by omega)), (fun _ => HT.out.2.1 (by omega)), (fun _ => HT.out.2.2.1 (by omega)), (fun _ => by trivial), HIX.out⟩
              case measure => simp [intOf]
          · rw [show ((4 : Nat) : Int) = 4 from rfl]
            obtain rfl := HT.out.1 (by omega)
            obtain rfl := HT.out.2.1 (by omega)
            obtain rfl := HT.out.2.2.1 (by omega)
            obtain rfl := HT.out.2.2.2 (by omega)
            go_wp2_with fail
            with_reducible refine (HCK.out _ HIL.out.fr).mono ?_
            rintro e w4 ⟨ck2, rfl, hck2, hf⟩
            subst hck2
            have HI4 := Lib.hid (HIL.out.fresh hf)
            clear hf
            by_cases hc0 : ck = 0
            rotate_left
            · have dc : ((ck : Int) != 0) = true := by simp; omega
              have hEC : backE l = ck := by rw [HBE.out, if_neg HNE.out, if_neg (by rw [HRT.out]; simp), HCKE.out, if_pos hc0]
              have HEC := Lib.hid hEC
              have HC0 := Lib.hid hc0
              clear hEC hc0
              have r0 := HI4.out.rs.cell 0
              have r1 := HI4.out.rs.cell 1
              have r2 := HI4.out.rs.cell 2
              have r3 := HI4.out.rs.cell 3
              have r4 := HI4.out.rs.cell 4
              have r5 := HI4.out.rs.cell 5
              have f0 := HI4.out.rs.frozen 0
              have f1 := HI4.out.rs.frozen 1
              have f2 := HI4.out.rs.frozen 2
              have f3 := HI4.out.rs.frozen 3
              have f4 := HI4.out.rs.frozen 4
              have f5 := HI4.out.rs.frozen 5
              unfold zeroR at r0 r1 r2 r3 r4 r5
              simp at r0 r1 r2 r3 r4 r5
              go_wp2_with fail
              refine wx_gen (fun W => Blk W p 25 zeroR ∧ Fresh w W) ⟨by simpa [zeroR] using ((((((HI4.out.rs).set 0 (.string ⟨#[]⟩)).set 1 (.string ⟨#[]⟩)).set 2 (.string ⟨#[]⟩)).set 3 (.string ⟨#[]⟩)).set 4 (.slice none 0 0)).set 5 (.slice none 0 0), ((((((HI4.out.fr.step _ _ HQB2.out.2.2.2.1).step _ _ HQB2.out.2.2.2.1).step _ _ HQB2.out.2.2.2.1).step _ _ HQB2.out.2.2.2.1).step _ _ HQB2.out.2.2.2.1).step _ _ HQB2.out.2.2.2.1)⟩ ?_
              rintro W9 ⟨hb9, hf9⟩
              have q0 := hb9.cell 0
              have q1 := hb9.cell 1
              have q2 := hb9.cell 2
              have q3 := hb9.cell 3
              have q4 := hb9.cell 4
              have q5 := hb9.cell 5
              unfold zeroR at q0 q1 q2 q3 q4 q5
              simp at q0 q1 q2 q3 q4 q5
              rw [← HQB.out]
              exact bodyPost_ret (v := .tuple #[.agg #[.string ⟨#[]⟩, .string ⟨#[]⟩, .string ⟨#[]⟩, .string ⟨#[]⟩, .slice none 0 0, .slice none 0 0], .int .i64 (ck : Int)]) (by simp [results, Tryz.results31, go_sem, q0, q1, q2, q3, q4, q5]) rfl (HNO.out W9 ck HEC.out.symm HC0.out hf9)
            have dc : ((ck : Int) != 0) = false := by rw [hc0]; rfl
            have HBE2 : Hid (backE l = if nvR 3 l = true then 0 else 32) := Lib.hid (by rw [HBE.out, if_neg HNE.out, if_neg (by rw [HRT.out]; simp), HCKE.out, if_neg (by simp [hc0])])
            clear hc0
            go_wp2_with fail
            go_loopw [95] (fun ix wr => ∃ i : Nat, i ≤ 3 ∧ ix = .int .i64 (i : Int) ∧ (∀ (j : Nat) y, j < i → l[j]? = some y → y.2 = (decide (3 ≤ j) && senB y.1.1)) ∧ BkI l w b q p 3 wr) (fun i _ => 3 - (intOf i).toNat)
            case atStart => exact ⟨0, by omega, rfl, (fun j y hj => by omega), HI4.out⟩
            case round =>
              obtain ⟨i, hi, rfl, hal, hI5⟩ := hrel
              have HI5 := Lib.hid hI5
              have HAL := Lib.hid hal
              clear hI5 hal
              by_cases hin : i < 3
              · have hin' : (i : Int) < (3 : Int) := by omega
                have hin2 : (i : Int) < (3 : Int) := by omega
                have hiw : IntKind.i64.wrap ((i : Int) + 1) = (i : Int) + 1 := IntWalk.i64_in _ (by omega)
                obtain ⟨x, hx⟩ : ∃ x, l[i]? = some x := ⟨_, List.getElem?_eq_getElem (by rw [HN.out]; omega)⟩
                obtain ⟨b9, o9, hbo, hb9, g0, g1, g2⟩ := HM.out.lnAt i x hx
                injection hbo with hbo
                injection hbo with hb8 ho8
                subst hb8 ho8
                have e0 := (HI5.out.fr.cell (p := ⟨b0, o0 + i * 3, none⟩) hb9).trans g0
                have e1 := (HI5.out.fr.cell (p := ⟨b0, o0 + i * 3 + 1, none⟩) hb9).trans g1
                have e2 := (HI5.out.fr.cell (p := ⟨b0, o0 + i * 3 + 2, none⟩) hb9).trans g2
                have HX := Lib.hid hx
                obtain ⟨⟨F1, F2⟩, nv⟩ := x
                simp only at e0 e1 e2
                have HSN := Lib.hid (fun w => cl_sen F1 w)
                obtain ⟨sb, hsb⟩ : ∃ sb, senB F1 = sb := ⟨_, rfl⟩
                rw [hsb] at HSN
                have HSB := Lib.hid hsb
                clear hx g0 g1 g2 hb9 hsb
                have HBAD : Hid (nv ≠ (decide (3 ≤ i) && sb) → backE l = 32) := Lib.hid (fun h => by
                  rw [HBE2.out, if_neg]
                  intro hnv
                  apply h
                  have := nvR_at hnv HX.out
                  simp only at this
                  rw [HSB.out] at this
                  exact this)
                have HGO : Hid (nv = (decide (3 ≤ i) && sb) → ∀ (j : Nat) y, j < i + 1 → l[j]? = some y → y.2 = (decide (3 ≤ j) && senB y.1.1)) := Lib.hid (fun h j y hj hy => by
                  by_cases e : j = i
                  · subst e
                    have h1 := HX.out
                    rw [hy] at h1
                    cases h1
                    simp only
                    rw [HSB.out]
                    exact h
                  · exact HAL.out j y (by omega) hy)
                go_upto_region 21 with fail
                refine wp_gen (fun W => Blk W wr.heap.size 38 #[.string F1, .string F2, .bool nv] ∧ Fresh wr W) ⟨Blk.new wr _ _, Fresh.alloc _ _⟩ ?_
                rintro W5 ⟨hbw, hfw⟩
                obtain ⟨yy, hyy⟩ : ∃ y, wr.heap.size = y := ⟨_, rfl⟩
                rw [hyy] at hbw ⊢
                clear hyy e0 e1 e2
                obtain ⟨y0, y1, y2⟩ := hbw.c3
                have HI6 := Lib.hid (HI5.out.fresh hfw)
                clear hbw hfw
                have hsplit : (3 ≤ i ∧ (decide (3 ≤ i)) = true) ∨ (i < 3 ∧ (decide (3 ≤ i)) = false) := by
                  by_cases h : 3 ≤ i
                  · exact .inl ⟨h, decide_eq_true h⟩
                  · exact .inr ⟨by omega, decide_eq_false h⟩
                rcases hsplit with ⟨h3, h4⟩ | ⟨h3, h4⟩
                · exfalso; omega
                · have d1 : decide ((3 : Int) ≤ (i : Int)) = false := decide_eq_false (by omega)
                  rw [h4, Bool.false_and] at HBAD HGO
                  clear h3
                  cases nv
                  all_goals
                    go_quiet ((go_at_call 32; exact Calls.quiet_of_same (HSN.out _)))
                    all_goals
                      refine wx_gen (BkI l w b q p 3) (HI6.out.fresh (Fresh.drewN _ _)) ?_
                      clear y0 y1 y2
                      rintro W7 hI7
                      have HI7 := Lib.hid hI7
                      clear hI7
                      first
                        | (have HGO2 := Lib.hid (HGO.out rfl)
                           go_wp2_with fail
                           go_roundw
                           case rel => exact ⟨i + 1, by omega, by go_num, HGO2.out, HI7.out⟩
                           case measure => simp [intOf]; omega)
                        | (have HE32 := Lib.hid (HBAD.out (by decide))
                           have r0 := HI7.out.rs.cell 0
                           have r1 := HI7.out.rs.cell 1
                           have r2 := HI7.out.rs.cell 2
                           have r3 := HI7.out.rs.cell 3
                           have r4 := HI7.out.rs.cell 4
                           have r5 := HI7.out.rs.cell 5
                           have f0 := HI7.out.rs.frozen 0
                           have f1 := HI7.out.rs.frozen 1
                           have f2 := HI7.out.rs.frozen 2
                           have f3 := HI7.out.rs.frozen 3
                           have f4 := HI7.out.rs.frozen 4
                           have f5 := HI7.out.rs.frozen 5
                           unfold zeroR at r0 r1 r2 r3 r4 r5
                           simp at r0 r1 r2 r3 r4 r5
                           go_wp2_with fail
                           refine wx_gen (fun W => Blk W p 25 zeroR ∧ Fresh w W) ⟨by simpa [zeroR] using ((((((HI7.out.rs).set 0 (.string ⟨#[]⟩)).set 1 (.string ⟨#[]⟩)).set 2 (.string ⟨#[]⟩)).set 3 (.string ⟨#[]⟩)).set 4 (.slice none 0 0)).set 5 (.slice none 0 0), ((((((HI7.out.fr.step _ _ HQB2.out.2.2.2.1).step _ _ HQB2.out.2.2.2.1).step _ _ HQB2.out.2.2.2.1).step _ _ HQB2.out.2.2.2.1).step _ _ HQB2.out.2.2.2.1).step _ _ HQB2.out.2.2.2.1)⟩ ?_
                           rintro W9 ⟨hb9, hf9⟩
                           have q0 := hb9.cell 0
                           have q1 := hb9.cell 1
                           have q2 := hb9.cell 2
                           have q3 := hb9.cell 3
                           have q4 := hb9.cell 4
                           have q5 := hb9.cell 5
                           unfold zeroR at q0 q1 q2 q3 q4 q5
                           simp at q0 q1 q2 q3 q4 q5
                           rw [← HQB.out]
                           exact bodyPost_ret (v := .tuple #[.agg #[.string ⟨#[]⟩, .string ⟨#[]⟩, .string ⟨#[]⟩, .string ⟨#[]⟩, .slice none 0 0, .slice none 0 0], .int .i64 32]) (by simp [results, Tryz.results31, go_sem, q0, q1, q2, q3, q4, q5]) rfl (HNO.out W9 32 HE32.out.symm (by decide) hf9))
              · obtain rfl : i = 3 := by omega
                have hE0 : backE l = 0 := by
                  rw [HBE2.out, if_pos (nvR_all (fun j y hy => HAL.out j y (by
                    have := (List.getElem?_eq_some_iff.1 hy).1
                    rw [HN.out] at this
                    omega) hy))]
                have HE0 := Lib.hid hE0
                clear hE0 hin
                go_wp2_with fail
                with_reducible refine (HFD.out _ HI5.out.fr).mono ?_
                rintro e w6 ⟨P, rfl, hP, hmf, hf⟩
                have HI6 := Lib.hid (HI5.out.fresh hf)
                have HP6 := Lib.hid hP
                have HMF := Lib.hid hmf
                have HBP : Hid (P ≠ b ∧ P ≠ p) := Lib.hid (by
                  have h1 := HI5.out.row.lt
                  have h2 := HI5.out.rs.lt
                  omega)
                clear hf hP hmf
                have z4 := (HROW.out _ HI6.out).2.2.2.2.cell 4
                have f4 := (HROW.out _ HI6.out).2.2.2.2.frozen 4
                simp at z4
                go_upto_region 25 with fail
                refine wp_gen (fun W => Blk W b 25 #[.string tm, .string ts, .string tp, .string ta, .slice (some ⟨P, 0, none⟩) 0 0, .slice none 0 0] ∧ Blk W p 25 zeroR ∧ Fresh w W ∧ Many fldD 2 W (some ⟨P, 0, none⟩) (tl.map (·.1))) ⟨by simpa using (HROW.out _ HI6.out).2.2.2.2.set 4 (.slice (some ⟨P, 0, none⟩) 0 0), HI6.out.rs.far HQB2.out.2.1 _, HI6.out.fr.step _ _ HQB2.out.2.2.1, by have h0 : Only (fun k => k = b) w6 w6 := Only.of_fresh (Fresh.refl _); exact HMF.out.only (h0.step ⟨b, 4, none⟩ _ (.inl rfl)) (fun b' o' e => by cases e; exact HBP.out.1)⟩ ?_
                rintro W8 ⟨h81, h82, h83, h84⟩
                have H82 := Lib.hid h82
                have H83 := Lib.hid h83
                have H84 := Lib.hid h84
                have v0 := h81.cell 0
                have v1 := h81.cell 1
                have v2 := h81.cell 2
                have v3 := h81.cell 3
                have v4 := h81.cell 4
                have v5 := h81.cell 5
                simp at v0 v1 v2 v3 v4 v5
                clear z4 f4 h81 h82 h83 h84
                have r0 := H82.out.cell 0
                have r1 := H82.out.cell 1
                have r2 := H82.out.cell 2
                have r3 := H82.out.cell 3
                have r4 := H82.out.cell 4
                have r5 := H82.out.cell 5
                have f0 := H82.out.frozen 0
                have f1 := H82.out.frozen 1
                have f2 := H82.out.frozen 2
                have f3 := H82.out.frozen 3
                have f4 := H82.out.frozen 4
                have f5 := H82.out.frozen 5
                unfold zeroR at r0 r1 r2 r3 r4 r5
                simp at r0 r1 r2 r3 r4 r5
                go_wp2_with fail
                refine wx_gen (fun W => Blk W p 25 #[.string tm, .string ts, .string tp, .string ta, .slice (some ⟨P, 0, none⟩) 0 0, .slice none 0 0] ∧ Fresh w W ∧ Many fldD 2 W (some ⟨P, 0, none⟩) (tl.map (·.1))) ⟨by simpa [zeroR] using ((((((H82.out).set 0 (.string tm)).set 1 (.string ts)).set 2 (.string tp)).set 3 (.string ta)).set 4 (.slice (some ⟨P, 0, none⟩) 0 0)).set 5 (.slice none 0 0), ((((((H83.out.step _ _ HQB2.out.2.2.2.1).step _ _ HQB2.out.2.2.2.1).step _ _ HQB2.out.2.2.2.1).step _ _ HQB2.out.2.2.2.1).step _ _ HQB2.out.2.2.2.1).step _ _ HQB2.out.2.2.2.1), by have h0 : Only (fun k => k = p) W8 W8 := Only.of_fresh (Fresh.refl _); exact H84.out.only ((((((h0.step ⟨p, 0, none⟩ _ (.inl rfl)).step ⟨p, 1, none⟩ _ (.inl rfl)).step ⟨p, 2, none⟩ _ (.inl rfl)).step ⟨p, 3, none⟩ _ (.inl rfl)).step ⟨p, 4, none⟩ _ (.inl rfl)).step ⟨p, 5, none⟩ _ (.inl rfl)) (fun b' o' e => by cases e; exact HBP.out.2)⟩ ?_
                rintro W9 ⟨hb9, hf9, hm9⟩
                have q0 := hb9.cell 0
                have q1 := hb9.cell 1
                have q2 := hb9.cell 2
                have q3 := hb9.cell 3
                have q4 := hb9.cell 4
                have q5 := hb9.cell 5
                simp at q0 q1 q2 q3 q4 q5
                rw [← HQB.out]
                exact bodyPost_ret (v := .tuple #[.agg #[.string tm, .string ts, .string tp, .string ta, .slice (some ⟨P, 0, none⟩) 0 0, .slice none 0 0], .int .i64 0]) (by simp [results, Tryz.results31, go_sem, q0, q1, q2, q3, q4, q5]) rfl (HFIN.out _ W9 HE0.out hm9 hf9)
    have hlt' : (k : Int) < (n : Int) := by omega
    have hkw : IntKind.i64.wrap ((k : Int) + 1) = (k : Int) + 1 := IntWalk.i64_in _ (by omega)
    obtain ⟨x, hx⟩ : ∃ x, l[k]? = some x := ⟨_, List.getElem?_eq_getElem (by rw [HN.out]; exact hlt)⟩
    obtain ⟨b0, o0, rfl, hb0, g0, g1, g2⟩ := HM.out.lnAt k x hx
    have e0 := (HI.out.fr.cell (p := ⟨b0, o0 + k * 3, none⟩) hb0).trans g0
    obtain ⟨nm, hnm, y0, _⟩ := plc_at HI.out.pl hk
    have HMT := Lib.hid (mtc_at HI.out.ks hnm hx)
    have HX := Lib.hid hx
    obtain ⟨⟨F1, F2⟩, nv⟩ := x
    simp only at e0 HMT g1
    have HE1 : Hid (∀ W, Fresh w W → W.cell? ⟨b0, o0 + k * 3 + 1, none⟩ = some (.string F2)) := Lib.hid (fun W hf => (hf.cell (p := ⟨b0, o0 + k * 3 + 1, none⟩) hb0).trans g1)
    clear hx hnm g0 g1 g2 hb0
    by_cases hF : F1 = nm
    · subst hF
      have hmm := HMT.out.1 rfl
      have hee : (F1.toList == F1.toList) = true := beq_self_eq_true _
      have HNX := Lib.hid (fun W (hf : Fresh wr W) => (HI.out.fresh hf).step HQB2.out.2.2.1 HQB2.out.1 HQB2.out.2.1 hk HX.out hmm)
      clear hmm
      go_upto_region 4 with fail
      go_quiet (fail)
      all_goals
        refine wx_gen (fun W => Fresh wr W) (Fresh.drewN _ _) ?_
        clear e0 y0
        rintro W hw
        have HW := Lib.hid hw
        have e1 := HE1.out W (HI.out.fr.trans hw)
        obtain ⟨_, _, _, y1⟩ := plc_at (HI.out.fresh hw).pl hk
        obtain ⟨old, hold⟩ := arrB_old (l := l) hk
        have z0 := ((HI.out.fresh hw).row.cell k).trans hold
        have z1 := (HI.out.fresh hw).row.frozen k
        clear hold hw
        go_upto_region 5 with fail
        go_region
        all_goals
          refine wx_gen (BkI l w b q p (k + 1)) (by first | exact HNX.out _ (HW.out.trans (Fresh.drew _)) | exact HNX.out _ (HW.out.trans (Fresh.drewN _ _))) ?_
          clear e1 y1 z0 z1
          rintro W2 hW2
          have HW2 := Lib.hid hW2
          clear hW2
          go_wp2_with fail
          go_roundw
          case rel => exact ⟨k + 1, by omega, by omega, by go_num, HW2.out⟩
          case measure => simp [intOf]; omega
    · have hee : (F1.toList == nm.toList) = false := by
        simp only [beq_eq_false_iff_ne, ne_eq]
        intro h
        apply hF
        rw [Lib.toList_data, Lib.toList_data] at h
        cases F1; cases nm
        simp only [ByteArray.mk.injEq]
        exact Array.toList_inj.1 h
      have hmm := HMT.out.2 hF
      by_cases hk3 : k < 3
      · go_upto_region 4 with fail
        go_quiet (fail)
        all_goals
          refine wx_gen (fun W => Fresh wr W) (Fresh.drewN _ _) ?_
          rintro W hw
          have HIW := Lib.hid (HI.out.fresh hw)
          clear hw e0 y0
          have hb32 : backE l = 32 := by unfold backE; rw [if_pos (by rw [hmm]; omega)]
          have HB32 := Lib.hid hb32
          have d3 : (k : Int) < 3 := by omega
          clear hb32
          have r0 := HIW.out.rs.cell 0
          have r1 := HIW.out.rs.cell 1
          have r2 := HIW.out.rs.cell 2
          have r3 := HIW.out.rs.cell 3
          have r4 := HIW.out.rs.cell 4
          have r5 := HIW.out.rs.cell 5
          have f0 := HIW.out.rs.frozen 0
          have f1 := HIW.out.rs.frozen 1
          have f2 := HIW.out.rs.frozen 2
          have f3 := HIW.out.rs.frozen 3
          have f4 := HIW.out.rs.frozen 4
          have f5 := HIW.out.rs.frozen 5
          unfold zeroR at r0 r1 r2 r3 r4 r5
          simp at r0 r1 r2 r3 r4 r5
          go_wp2_with fail
          refine wx_gen (fun W => Blk W p 25 zeroR ∧ Fresh w W) ⟨by simpa [zeroR] using ((((((HIW.out.rs).set 0 (.string ⟨#[]⟩)).set 1 (.string ⟨#[]⟩)).set 2 (.string ⟨#[]⟩)).set 3 (.string ⟨#[]⟩)).set 4 (.slice none 0 0)).set 5 (.slice none 0 0), ((((((HIW.out.fr.step _ _ HQB2.out.2.2.2.1).step _ _ HQB2.out.2.2.2.1).step _ _ HQB2.out.2.2.2.1).step _ _ HQB2.out.2.2.2.1).step _ _ HQB2.out.2.2.2.1).step _ _ HQB2.out.2.2.2.1)⟩ ?_
          rintro W9 ⟨hb9, hf9⟩
          have q0 := hb9.cell 0
          have q1 := hb9.cell 1
          have q2 := hb9.cell 2
          have q3 := hb9.cell 3
          have q4 := hb9.cell 4
          have q5 := hb9.cell 5
          unfold zeroR at q0 q1 q2 q3 q4 q5
          simp at q0 q1 q2 q3 q4 q5
          rw [← HQB.out]
          exact bodyPost_ret (v := .tuple #[.agg #[.string ⟨#[]⟩, .string ⟨#[]⟩, .string ⟨#[]⟩, .string ⟨#[]⟩, .slice none 0 0, .slice none 0 0], .int .i64 32]) (by simp [results, Tryz.results31, go_sem, q0, q1, q2, q3, q4, q5]) rfl (HNO.out W9 32 HB32.out.symm (by decide) hf9)
      obtain rfl : k = 3 := by omega
      rw [show ((3 : Nat) : Int) = 3 from rfl] at hlt' ⊢
      clear hk' hk hk3 hkw
      go_upto_region 4 with fail
      go_quiet (fail)
      all_goals
        refine wx_gen (fun W => Fresh wr W) (Fresh.drewN _ _) ?_
        rintro W hw
        have HIW := Lib.hid (HI.out.fresh hw)
        clear hw e0 y0
        obtain ⟨m, rfl⟩ : ∃ m, n = m + 3 := ⟨n - 3, by omega⟩
        have x1 : (c0 ≤ 3) = False := by simp; omega
        have x2 : (c0 - 3 = 0) = False := by simp; omega
        obtain ⟨tl, htl⟩ : ∃ tl, l.drop 3 = tl := ⟨_, rfl⟩
        have HTLN : Hid (tl.length = m) := Lib.hid (by have h := HN.out; rw [← htl, List.length_drop]; omega)
        have hmtl : Many lnD 3 w (some ⟨b0, o0 + 9, none⟩) tl := by rw [← htl]; exact many_dropL HM.out 3
        have hstl : ∀ x ∈ tl, x.1.2.size ≤ 1000000 := fun x hx => (HS.out x (by rw [← htl] at hx; exact List.mem_of_mem_drop hx)).2
        obtain ⟨ps, hps⟩ : ∃ ps, psB tl = ps := ⟨_, rfl⟩
        obtain ⟨ck, hck⟩ : ∃ ck, chkR tl = ck := ⟨_, rfl⟩
        have HPS := Lib.hid (fun W (h : Fresh w W) => rq_pseudo (some ⟨b0, o0 + 9, none⟩) (c0 - 3) tl W (hmtl.fresh h) (by rw [HTLN.out]; omega) ps hps)
        have HCK := Lib.hid (fun W (h : Fresh w W) => cl_check (some ⟨b0, o0 + 9, none⟩) (c0 - 3) tl W (hmtl.fresh h) (by rw [HTLN.out]; omega) hstl)
        have HFD := Lib.hid (fun W (h : Fresh w W) => de_fields (some ⟨b0, o0 + 9, none⟩) (c0 - 3) tl W (hmtl.fresh h) (by rw [HTLN.out]; omega))
        unfold ChkP at HCK
        unfold FldsP at HFD
        rw [HTLN.out] at HPS HCK HFD
        rw [hck] at HCK
        obtain ⟨tm, htm⟩ : ∃ t, txtR l 3 0 = t := ⟨_, rfl⟩
        obtain ⟨ts, hts⟩ : ∃ t, txtR l 3 1 = t := ⟨_, rfl⟩
        obtain ⟨tp, htp⟩ : ∃ t, txtR l 3 2 = t := ⟨_, rfl⟩
        obtain ⟨ta, hta⟩ : ∃ t, txtR l 3 3 = t := ⟨_, rfl⟩
        have z0 := txtR_size (n := 3) (k := 0) (fun x hx => (HS.out x hx).2)
        have z2 := txtR_size (n := 3) (k := 2) (fun x hx => (HS.out x hx).2)
        have z3 := txtR_size (n := 3) (k := 3) (fun x hx => (HS.out x hx).2)
        rw [htm] at z0
        rw [htp] at z2
        rw [hta] at z3
        have HR0 := Lib.hid (fun w => rq_method tm w (by omega))
        have HR1 := Lib.hid (fun w => rq_scheme ts w)
        have HR2 := Lib.hid (fun w => rq_path tp w (by omega))
        have HR3 := Lib.hid (fun w => rq_visible ta w (by omega))
        obtain ⟨bb0, hb0'⟩ : ∃ b, mthB tm.data.toList = b := ⟨_, rfl⟩
        obtain ⟨bb1, hb1'⟩ : ∃ b, schB ts = b := ⟨_, rfl⟩
        obtain ⟨bb2, hb2'⟩ : ∃ b, pthB tp = b := ⟨_, rfl⟩
        obtain ⟨bb3, hb3'⟩ : ∃ b, visB ta.data.toList = b := ⟨_, rfl⟩
        have HRT : Hid (rightR tm ts tp ta = (bb0 && (bb1 && (bb2 && bb3)))) := Lib.hid (by unfold rightR; rw [hb0', hb1', hb2', hb3'])
        rw [hb0'] at HR0
        rw [hb1'] at HR1
        rw [hb2'] at HR2
        rw [hb3'] at HR3
        have HROW : Hid (∀ W, BkI l w b q p 3 W → W.cell? ⟨b, 0, none⟩ = some (.string tm) ∧ W.cell? ⟨b, 1, none⟩ = some (.string ts) ∧ W.cell? ⟨b, 2, none⟩ = some (.string tp) ∧ W.cell? ⟨b, 3, none⟩ = some (.string ta) ∧ Blk W b 25 #[.string tm, .string ts, .string tp, .string ta, .slice none 0 0, .slice none 0 0]) := Lib.hid (fun W h => by
          have hr := h.row
          unfold arrB at hr
          rw [htm, hts, htp, hta] at hr
          exact ⟨hr.cell 0, hr.cell 1, hr.cell 2, hr.cell 3, hr⟩)
        have HBE : Hid (backE l = if (3 = 4 ∧ ta.data.toList = []) ∨ psB tl = true then 32 else if rightR tm ts tp ta = false then 31 else if chkR tl ≠ 0 then chkR tl else if nvR 3 l = true then 0 else 32) := Lib.hid (by unfold backE; rw [hmm, htm, hts, htp, hta, htl, if_neg (by omega)])
        have HPSE := Lib.hid hps
        have HCKE := Lib.hid hck
        have HFIN : Hid (∀ (A : Option Addr) W, backE l = 0 → Many fldD 2 W A (tl.map (·.1)) → Fresh w W → PP (.returned (.tuple #[.agg #[.string tm, .string ts, .string tp, .string ta, .slice A m m, .slice none 0 0], .int .i64 0])) W) := Lib.hid (fun A W h0 hm hf => HYES.out W tm ts tp ta A m h0.symm (by rw [hmm]; exact ⟨htm.symm, hts.symm, htp.symm, hta.symm, by rw [htl, HTLN.out], by rw [htl]; exact hm⟩) hf)
        clear hmtl hstl hps hck htm hts htp hta z0 z2 z3 hb0' hb1' hb2' hb3' htl
        obtain ⟨_, _, _, t3, _⟩ := HROW.out W HIW.out
        go_wp2_with fail
        with_reducible refine (HPS.out _ HIW.out.fr).mono ?_
        rintro e w3 ⟨rfl, hf⟩
        have HI3 := Lib.hid (HIW.out.fresh hf)
        clear hf t3
        cases ps
        rotate_left
        · have hE32 : backE l = 32 := by rw [HBE.out, if_pos (.inr HPSE.out)]
          have HE32 := Lib.hid hE32
          clear hE32
          have r0 := HI3.out.rs.cell 0
          have r1 := HI3.out.rs.cell 1
          have r2 := HI3.out.rs.cell 2
          have r3 := HI3.out.rs.cell 3
          have r4 := HI3.out.rs.cell 4
          have r5 := HI3.out.rs.cell 5
          have f0 := HI3.out.rs.frozen 0
          have f1 := HI3.out.rs.frozen 1
          have f2 := HI3.out.rs.frozen 2
          have f3 := HI3.out.rs.frozen 3
          have f4 := HI3.out.rs.frozen 4
          have f5 := HI3.out.rs.frozen 5
          unfold zeroR at r0 r1 r2 r3 r4 r5
          simp at r0 r1 r2 r3 r4 r5
          go_wp2_with fail
          refine wx_gen (fun W => Blk W p 25 zeroR ∧ Fresh w W) ⟨by simpa [zeroR] using ((((((HI3.out.rs).set 0 (.string ⟨#[]⟩)).set 1 (.string ⟨#[]⟩)).set 2 (.string ⟨#[]⟩)).set 3 (.string ⟨#[]⟩)).set 4 (.slice none 0 0)).set 5 (.slice none 0 0), ((((((HI3.out.fr.step _ _ HQB2.out.2.2.2.1).step _ _ HQB2.out.2.2.2.1).step _ _ HQB2.out.2.2.2.1).step _ _ HQB2.out.2.2.2.1).step _ _ HQB2.out.2.2.2.1).step _ _ HQB2.out.2.2.2.1)⟩ ?_
          rintro W9 ⟨hb9, hf9⟩
          have q0 := hb9.cell 0
          have q1 := hb9.cell 1
          have q2 := hb9.cell 2
          have q3 := hb9.cell 3
          have q4 := hb9.cell 4
          have q5 := hb9.cell 5
          unfold zeroR at q0 q1 q2 q3 q4 q5
          simp at q0 q1 q2 q3 q4 q5
          rw [← HQB.out]
          exact bodyPost_ret (v := .tuple #[.agg #[.string ⟨#[]⟩, .string ⟨#[]⟩, .string ⟨#[]⟩, .string ⟨#[]⟩, .slice none 0 0, .slice none 0 0], .int .i64 32]) (by simp [results, Tryz.results31, go_sem, q0, q1, q2, q3, q4, q5]) rfl (HNO.out W9 32 HE32.out.symm (by decide) hf9)
        have HNE : Hid (¬ ((3 = 4 ∧ ta.data.toList = []) ∨ psB tl = true)) := Lib.hid (fun h => by rcases h with h | h; exact absurd h.1 (by decide); rw [HPSE.out] at h; cases h)
        go_wp2_with fail
        go_loopw [71] (fun ix wr => ∃ k : Nat, k ≤ 4 ∧ ix = .int .i64 (k : Int) ∧ (0 < k → bb0 = true) ∧ (1 < k → bb1 = true) ∧ (2 < k → bb2 = true) ∧ (3 < k → bb3 = true) ∧ BkI l w b q p 3 wr) (fun i _ => 4 - (intOf i).toNat)
        case atStart => exact ⟨0, by omega, rfl, (fun h => by omega), (fun h => by omega), (fun h => by omega), (fun h => by omega), HI3.out⟩
        case round =>
          obtain ⟨k, hk, rfl, ht0, ht1, ht2, ht3, hIL⟩ := hrel
          have HIL := Lib.hid hIL
          have HT := Lib.hid (And.intro ht0 (And.intro ht1 (And.intro ht2 ht3)))
          clear hIL ht0 ht1 ht2 ht3
          rcases (show k = 0 ∨ k = 1 ∨ k = 2 ∨ k = 3 ∨ k = 4 by omega) with rfl | rfl | rfl | rfl | rfl
          · rw [show ((0 : Nat) : Int) = 0 from rfl]
            have hqk := HIL.out.pl
            have e0 := hqk.cell 0
            have e1 := hqk.cell 1
            have e2 := hqk.cell 2
            unfold plcA at e0 e1 e2
            simp at e0 e1 e2
            clear hqk
            go_upto_region 12 with fail
            refine wp_gen (fun W => Blk W wr.heap.size 72 #[.string mthN, .pointer (some ⟨b, 0, none⟩), .func (.func 47) #[] #[]] ∧ Fresh wr W) ⟨Blk.new wr _ _, Fresh.alloc _ _⟩ ?_
            rintro W ⟨hbw, hfw⟩
            obtain ⟨pp, hpp⟩ : ∃ p, wr.heap.size = p := ⟨_, rfl⟩
            rw [hpp] at hbw ⊢
            clear hpp e0 e1 e2
            have HSK : Hid (∀ w', Fresh W w' → w'.cell? ⟨pp, 0, none⟩ = some (.string mthN) ∧ w'.cell? ⟨pp, 1, none⟩ = some (.pointer (some ⟨b, 0, none⟩)) ∧ w'.cell? ⟨pp, 2, none⟩ = some (.func (.func 47) #[] #[]) ∧ w'.cell? ⟨b, 0, none⟩ = some (.string tm) ∧ Fresh W w') := Lib.hid (fun w' hw => ⟨(hbw.fresh hw).cell 0, (hbw.fresh hw).cell 1, (hbw.fresh hw).cell 2, (HROW.out _ (HIL.out.fresh (hfw.trans hw))).1, hw⟩)
            have HIW2 := Lib.hid (HIL.out.fresh hfw)
            clear hbw hfw HIL
            obtain ⟨y0, y1, y2, y3, _⟩ := HSK.out W (Fresh.refl _)
            go_region_held3 (fun w' => w'.cell? ⟨pp, 0, none⟩ = some (.string mthN) ∧ w'.cell? ⟨pp, 1, none⟩ = some (.pointer (some ⟨b, 0, none⟩)) ∧ w'.cell? ⟨pp, 2, none⟩ = some (.func (.func 47) #[] #[]) ∧ w'.cell? ⟨b, 0, none⟩ = some (.string tm) ∧ Fresh W w')
              ((refine HSK.out _ ?_; first | with_reducible assumption | with_reducible exact Fresh.drew _))
              (first | (go_at_call 47; (with_reducible refine (HR0.out _).mono ?_); rintro e wa ⟨rfl, hwa⟩; have hga : Fresh W wa := by (rw [hwa]; first | with_reducible assumption | with_reducible exact Fresh.drew _)))
            all_goals
              refine wx_gen (fun W2 => Fresh W W2) (by first | exact hga | exact Fresh.drew _) ?_
              clear y0 y1 y2 y3
              rintro W2 hw2
              have HIX := Lib.hid (HIW2.out.fresh hw2)
              clear hw2
              cases bb0
              · have hE31 : backE l = 31 := by rw [HBE.out, if_neg HNE.out, if_pos (by rw [HRT.out]; simp)]
                have HE31 := Lib.hid hE31
                clear hE31
                have r0 := HIX.out.rs.cell 0
                have r1 := HIX.out.rs.cell 1
                have r2 := HIX.out.rs.cell 2
                have r3 := HIX.out.rs.cell 3
                have r4 := HIX.out.rs.cell 4
                have r5 := HIX.out.rs.cell 5
                have f0 := HIX.out.rs.frozen 0
                have f1 := HIX.out.rs.frozen 1
                have f2 := HIX.out.rs.frozen 2
                have f3 := HIX.out.rs.frozen 3
                have f4 := HIX.out.rs.frozen 4
                have f5 := HIX.out.rs.frozen 5
                unfold zeroR at r0 r1 r2 r3 r4 r5
                simp at r0 r1 r2 r3 r4 r5
                go_wp2_with fail
                refine wx_gen (fun W => Blk W p 25 zeroR ∧ Fresh w W) ⟨by simpa [zeroR] using ((((((HIX.out.rs).set 0 (.string ⟨#[]⟩)).set 1 (.string ⟨#[]⟩)).set 2 (.string ⟨#[]⟩)).set 3 (.string ⟨#[]⟩)).set 4 (.slice none 0 0)).set 5 (.slice none 0 0), ((((((HIX.out.fr.step _ _ HQB2.out.2.2.2.1).step _ _ HQB2.out.2.2.2.1).step _ _ HQB2.out.2.2.2.1).step _ _ HQB2.out.2.2.2.1).step _ _ HQB2.out.2.2.2.1).step _ _ HQB2.out.2.2.2.1)⟩ ?_
                rintro W9 ⟨hb9, hf9⟩
                have q0 := hb9.cell 0
                have q1 := hb9.cell 1
                have q2 := hb9.cell 2
                have q3 := hb9.cell 3
                have q4 := hb9.cell 4
                have q5 := hb9.cell 5
                unfold zeroR at q0 q1 q2 q3 q4 q5
                simp at q0 q1 q2 q3 q4 q5
                rw [← HQB.out]
                exact bodyPost_ret (v := .tuple #[.agg #[.string ⟨#[]⟩, .string ⟨#[]⟩, .string ⟨#[]⟩, .string ⟨#[]⟩, .slice none 0 0, .slice none 0 0], .int .i64 31]) (by simp [results, Tryz.results31, go_sem, q0, q1, q2, q3, q4, q5]) rfl (HNO.out W9 31 HE31.out.symm (by decide) hf9)
              go_wp2_with fail
              go_roundw
              case rel => exact ⟨0 + 1, by omega, by first | rfl | go_num, (fun _ => by trivial), (fun h => absurd h (by omega)), (fun h => absurd h (by omega)), (fun h => absurd h (by omega)), HIX.out⟩
              case measure => simp [intOf]
          · rw [show ((1 : Nat) : Int) = 1 from rfl]
            have hqk := HIL.out.pl
            have e0 := hqk.cell 3
            have e1 := hqk.cell 4
            have e2 := hqk.cell 5
            unfold plcA at e0 e1 e2
            simp at e0 e1 e2
            clear hqk
            go_upto_region 12 with fail
            refine wp_gen (fun W => Blk W wr.heap.size 72 #[.string schN, .pointer (some ⟨b, 1, none⟩), .func (.func 48) #[] #[]] ∧ Fresh wr W) ⟨Blk.new wr _ _, Fresh.alloc _ _⟩ ?_
            rintro W ⟨hbw, hfw⟩
            obtain ⟨pp, hpp⟩ : ∃ p, wr.heap.size = p := ⟨_, rfl⟩
            rw [hpp] at hbw ⊢
            clear hpp e0 e1 e2
            have HSK : Hid (∀ w', Fresh W w' → w'.cell? ⟨pp, 0, none⟩ = some (.string schN) ∧ w'.cell? ⟨pp, 1, none⟩ = some (.pointer (some ⟨b, 1, none⟩)) ∧ w'.cell? ⟨pp, 2, none⟩ = some (.func (.func 48) #[] #[]) ∧ w'.cell? ⟨b, 1, none⟩ = some (.string ts) ∧ Fresh W w') := Lib.hid (fun w' hw => ⟨(hbw.fresh hw).cell 0, (hbw.fresh hw).cell 1, (hbw.fresh hw).cell 2, (HROW.out _ (HIL.out.fresh (hfw.trans hw))).2.1, hw⟩)
            have HIW2 := Lib.hid (HIL.out.fresh hfw)
            clear hbw hfw HIL
            obtain ⟨y0, y1, y2, y3, _⟩ := HSK.out W (Fresh.refl _)
            go_region_held3 (fun w' => w'.cell? ⟨pp, 0, none⟩ = some (.string schN) ∧ w'.cell? ⟨pp, 1, none⟩ = some (.pointer (some ⟨b, 1, none⟩)) ∧ w'.cell? ⟨pp, 2, none⟩ = some (.func (.func 48) #[] #[]) ∧ w'.cell? ⟨b, 1, none⟩ = some (.string ts) ∧ Fresh W w')
              ((refine HSK.out _ ?_; first | with_reducible assumption | with_reducible exact Fresh.drew _))
              (first | (go_at_call 48; (with_reducible refine (HR1.out _).mono ?_); rintro e wa ⟨rfl, hwa⟩; have hga : Fresh W wa := by (rw [hwa]; first | with_reducible assumption | with_reducible exact Fresh.drew _)))
            all_goals
              refine wx_gen (fun W2 => Fresh W W2) (by first | exact hga | exact Fresh.drew _) ?_
              clear y0 y1 y2 y3
              rintro W2 hw2
              have HIX := Lib.hid (HIW2.out.fresh hw2)
              clear hw2
              cases bb1
              · have hE31 : backE l = 31 := by rw [HBE.out, if_neg HNE.out, if_pos (by rw [HRT.out]; simp)]
                have HE31 := Lib.hid hE31
                clear hE31
                have r0 := HIX.out.rs.cell 0
                have r1 := HIX.out.rs.cell 1
                have r2 := HIX.out.rs.cell 2
                have r3 := HIX.out.rs.cell 3
                have r4 := HIX.out.rs.cell 4
                have r5 := HIX.out.rs.cell 5
                have f0 := HIX.out.rs.frozen 0
                have f1 := HIX.out.rs.frozen 1
                have f2 := HIX.out.rs.frozen 2
                have f3 := HIX.out.rs.frozen 3
                have f4 := HIX.out.rs.frozen 4
                have f5 := HIX.out.rs.frozen 5
                unfold zeroR at r0 r1 r2 r3 r4 r5
                simp at r0 r1 r2 r3 r4 r5
                go_wp2_with fail
                refine wx_gen (fun W => Blk W p 25 zeroR ∧ Fresh w W) ⟨by simpa [zeroR] using ((((((HIX.out.rs).set 0 (.string ⟨#[]⟩)).set 1 (.string ⟨#[]⟩)).set 2 (.string ⟨#[]⟩)).set 3 (.string ⟨#[]⟩)).set 4 (.slice none 0 0)).set 5 (.slice none 0 0), ((((((HIX.out.fr.step _ _ HQB2.out.2.2.2.1).step _ _ HQB2.out.2.2.2.1).step _ _ HQB2.out.2.2.2.1).step _ _ HQB2.out.2.2.2.1).step _ _ HQB2.out.2.2.2.1).step _ _ HQB2.out.2.2.2.1)⟩ ?_
                rintro W9 ⟨hb9, hf9⟩
                have q0 := hb9.cell 0
                have q1 := hb9.cell 1
                have q2 := hb9.cell 2
                have q3 := hb9.cell 3
                have q4 := hb9.cell 4
                have q5 := hb9.cell 5
                unfold zeroR at q0 q1 q2 q3 q4 q5
                simp at q0 q1 q2 q3 q4 q5
                rw [← HQB.out]
                exact bodyPost_ret (v := .tuple #[.agg #[.string ⟨#[]⟩, .string ⟨#[]⟩, .string ⟨#[]⟩, .string ⟨#[]⟩, .slice none 0 0, .slice none 0 0], .int .i64 31]) (by simp [results, Tryz.results31, go_sem, q0, q1, q2, q3, q4, q5]) rfl (HNO.out W9 31 HE31.out.symm (by decide) hf9)
              go_wp2_with fail
              go_roundw
              case rel => exact ⟨1 + 1, by omega, by first | rfl | go_num, (fun _ => HT.out.1 (by omega)), (fun _ => by trivial), (fun h => absurd h (by omega)), (fun h => absurd h (by omega)), HIX.out⟩
              case measure => simp [intOf]
          · rw [show ((2 : Nat) : Int) = 2 from rfl]
            have hqk := HIL.out.pl
            have e0 := hqk.cell 6
            have e1 := hqk.cell 7
            have e2 := hqk.cell 8
            unfold plcA at e0 e1 e2
            simp at e0 e1 e2
            clear hqk
            go_upto_region 12 with fail
            refine wp_gen (fun W => Blk W wr.heap.size 72 #[.string pthN, .pointer (some ⟨b, 2, none⟩), .func (.func 49) #[] #[]] ∧ Fresh wr W) ⟨Blk.new wr _ _, Fresh.alloc _ _⟩ ?_
            rintro W ⟨hbw, hfw⟩
            obtain ⟨pp, hpp⟩ : ∃ p, wr.heap.size = p := ⟨_, rfl⟩
            rw [hpp] at hbw ⊢
            clear hpp e0 e1 e2
            have HSK : Hid (∀ w', Fresh W w' → w'.cell? ⟨pp, 0, none⟩ = some (.string pthN) ∧ w'.cell? ⟨pp, 1, none⟩ = some (.pointer (some ⟨b, 2, none⟩)) ∧ w'.cell? ⟨pp, 2, none⟩ = some (.func (.func 49) #[] #[]) ∧ w'.cell? ⟨b, 2, none⟩ = some (.string tp) ∧ Fresh W w') := Lib.hid (fun w' hw => ⟨(hbw.fresh hw).cell 0, (hbw.fresh hw).cell 1, (hbw.fresh hw).cell 2, (HROW.out _ (HIL.out.fresh (hfw.trans hw))).2.2.1, hw⟩)
            have HIW2 := Lib.hid (HIL.out.fresh hfw)
            clear hbw hfw HIL
            obtain ⟨y0, y1, y2, y3, _⟩ := HSK.out W (Fresh.refl _)
            go_region_held3 (fun w' => w'.cell? ⟨pp, 0, none⟩ = some (.string pthN) ∧ w'.cell? ⟨pp, 1, none⟩ = some (.pointer (some ⟨b, 2, none⟩)) ∧ w'.cell? ⟨pp, 2, none⟩ = some (.func (.func 49) #[] #[]) ∧ w'.cell? ⟨b, 2, none⟩ = some (.string tp) ∧ Fresh W w')
              ((refine HSK.out _ ?_; first | with_reducible assumption | with_reducible exact Fresh.drew _))
              (first | (go_at_call 49; (with_reducible refine (HR2.out _).mono ?_); rintro e wa ⟨rfl, hwa⟩; have hga : Fresh W wa := by (rw [hwa]; first | with_reducible assumption | with_reducible exact Fresh.drew _)))
            all_goals
              refine wx_gen (fun W2 => Fresh W W2) (by first | exact hga | exact Fresh.drew _) ?_
              clear y0 y1 y2 y3
              rintro W2 hw2
              have HIX := Lib.hid (HIW2.out.fresh hw2)
              clear hw2
              cases bb2
              · have hE31 : backE l = 31 := by rw [HBE.out, if_neg HNE.out, if_pos (by rw [HRT.out]; simp)]
                have HE31 := Lib.hid hE31
                clear hE31
                have r0 := HIX.out.rs.cell 0
                have r1 := HIX.out.rs.cell 1
                have r2 := HIX.out.rs.cell 2
                have r3 := HIX.out.rs.cell 3
                have r4 := HIX.out.rs.cell 4
                have r5 := HIX.out.rs.cell 5
                have f0 := HIX.out.rs.frozen 0
                have f1 := HIX.out.rs.frozen 1
                have f2 := HIX.out.rs.frozen 2
                have f3 := HIX.out.rs.frozen 3
                have f4 := HIX.out.rs.frozen 4
                have f5 := HIX.out.rs.frozen 5
                unfold zeroR at r0 r1 r2 r3 r4 r5
                simp at r0 r1 r2 r3 r4 r5
                go_wp2_with fail
                refine wx_gen (fun W => Blk W p 25 zeroR ∧ Fresh w W) ⟨by simpa [zeroR] using ((((((HIX.out.rs).set 0 (.string ⟨#[]⟩)).set 1 (.string ⟨#[]⟩)).set 2 (.string ⟨#[]⟩)).set 3 (.string ⟨#[]⟩)).set 4 (.slice none 0 0)).set 5 (.slice none 0 0), ((((((HIX.out.fr.step _ _ HQB2.out.2.2.2.1).step _ _ HQB2.out.2.2.2.1).step _ _ HQB2.out.2.2.2.1).step _ _ HQB2.out.2.2.2.1).step _ _ HQB2.out.2.2.2.1).step _ _ HQB2.out.2.2.2.1)⟩ ?_
                rintro W9 ⟨hb9, hf9⟩
                have q0 := hb9.cell 0
                have q1 := hb9.cell 1
                have q2 := hb9.cell 2
                have q3 := hb9.cell 3
                have q4 := hb9.cell 4
                have q5 := hb9.cell 5
                unfold zeroR at q0 q1 q2 q3 q4 q5
                simp at q0 q1 q2 q3 q4 q5
                rw [← HQB.out]
                exact bodyPost_ret (v := .tuple #[.agg #[.string ⟨#[]⟩, .string ⟨#[]⟩, .string ⟨#[]⟩, .string ⟨#[]⟩, .slice none 0 0, .slice none 0 0], .int .i64 31]) (by simp [results, Tryz.results31, go_sem, q0, q1, q2, q3, q4, q5]) rfl (HNO.out W9 31 HE31.out.symm (by decide) hf9)
              go_wp2_with fail
              go_roundw
              case rel => exact ⟨2 + 1, by omega, by first | rfl | go_num, (fun _ => HT.out.1 (by omega)), (fun _ => HT.out.2.1 (by omega)), (fun _ => by trivial), (fun h => absurd h (by omega)), HIX.out⟩
              case measure => simp [intOf]
          · rw [show ((3 : Nat) : Int) = 3 from rfl]
            have hqk := HIL.out.pl
            have e0 := hqk.cell 9
            have e1 := hqk.cell 10
            have e2 := hqk.cell 11
            unfold plcA at e0 e1 e2
            simp at e0 e1 e2
            clear hqk
            go_upto_region 12 with fail
            refine wp_gen (fun W => Blk W wr.heap.size 72 #[.string autN, .pointer (some ⟨b, 3, none⟩), .func (.func 50) #[] #[]] ∧ Fresh wr W) ⟨Blk.new wr _ _, Fresh.alloc _ _⟩ ?_
            rintro W ⟨hbw, hfw⟩
            obtain ⟨pp, hpp⟩ : ∃ p, wr.heap.size = p := ⟨_, rfl⟩
            rw [hpp] at hbw ⊢
            clear hpp e0 e1 e2
            have HSK : Hid (∀ w', Fresh W w' → w'.cell? ⟨pp, 0, none⟩ = some (.string autN) ∧ w'.cell? ⟨pp, 1, none⟩ = some (.pointer (some ⟨b, 3, none⟩)) ∧ w'.cell? ⟨pp, 2, none⟩ = some (.func (.func 50) #[] #[]) ∧ w'.cell? ⟨b, 3, none⟩ = some (.string ta) ∧ Fresh W w') := Lib.hid (fun w' hw => ⟨(hbw.fresh hw).cell 0, (hbw.fresh hw).cell 1, (hbw.fresh hw).cell 2, (HROW.out _ (HIL.out.fresh (hfw.trans hw))).2.2.2.1, hw⟩)
            have HIW2 := Lib.hid (HIL.out.fresh hfw)
            clear hbw hfw HIL
            obtain ⟨y0, y1, y2, y3, _⟩ := HSK.out W (Fresh.refl _)
            go_region_held3 (fun w' => w'.cell? ⟨pp, 0, none⟩ = some (.string autN) ∧ w'.cell? ⟨pp, 1, none⟩ = some (.pointer (some ⟨b, 3, none⟩)) ∧ w'.cell? ⟨pp, 2, none⟩ = some (.func (.func 50) #[] #[]) ∧ w'.cell? ⟨b, 3, none⟩ = some (.string ta) ∧ Fresh W w')
              ((refine HSK.out _ ?_; first | with_reducible assumption | with_reducible exact Fresh.drew _))
              (first | (go_at_call 50; (with_reducible refine (HR3.out _).mono ?_); rintro e wa ⟨rfl, hwa⟩; have hga : Fresh W wa := by (rw [hwa]; first | with_reducible assumption | with_reducible exact Fresh.drew _)))
            all_goals
              refine wx_gen (fun W2 => Fresh W W2) (by first | exact hga | exact Fresh.drew _) ?_
              clear y0 y1 y2 y3
              rintro W2 hw2
              have HIX := Lib.hid (HIW2.out.fresh hw2)
              clear hw2
              cases bb3
              · have hE31 : backE l = 31 := by rw [HBE.out, if_neg HNE.out, if_pos (by rw [HRT.out]; simp)]
                have HE31 := Lib.hid hE31
                clear hE31
                have r0 := HIX.out.rs.cell 0
                have r1 := HIX.out.rs.cell 1
                have r2 := HIX.out.rs.cell 2
                have r3 := HIX.out.rs.cell 3
                have r4 := HIX.out.rs.cell 4
                have r5 := HIX.out.rs.cell 5
                have f0 := HIX.out.rs.frozen 0
                have f1 := HIX.out.rs.frozen 1
                have f2 := HIX.out.rs.frozen 2
                have f3 := HIX.out.rs.frozen 3
                have f4 := HIX.out.rs.frozen 4
                have f5 := HIX.out.rs.frozen 5
                unfold zeroR at r0 r1 r2 r3 r4 r5
                simp at r0 r1 r2 r3 r4 r5
                go_wp2_with fail
                refine wx_gen (fun W => Blk W p 25 zeroR ∧ Fresh w W) ⟨by simpa [zeroR] using ((((((HIX.out.rs).set 0 (.string ⟨#[]⟩)).set 1 (.string ⟨#[]⟩)).set 2 (.string ⟨#[]⟩)).set 3 (.string ⟨#[]⟩)).set 4 (.slice none 0 0)).set 5 (.slice none 0 0), ((((((HIX.out.fr.step _ _ HQB2.out.2.2.2.1).step _ _ HQB2.out.2.2.2.1).step _ _ HQB2.out.2.2.2.1).step _ _ HQB2.out.2.2.2.1).step _ _ HQB2.out.2.2.2.1).step _ _ HQB2.out.2.2.2.1)⟩ ?_
                rintro W9 ⟨hb9, hf9⟩
                have q0 := hb9.cell 0
                have q1 := hb9.cell 1
                have q2 := hb9.cell 2
                have q3 := hb9.cell 3
                have q4 := hb9.cell 4
                have q5 := hb9.cell 5
                unfold zeroR at q0 q1 q2 q3 q4 q5
                simp at q0 q1 q2 q3 q4 q5
                rw [← HQB.out]
                exact bodyPost_ret (v := .tuple #[.agg #[.string ⟨#[]⟩, .string ⟨#[]⟩, .string ⟨#[]⟩, .string ⟨#[]⟩, .slice none 0 0, .slice none 0 0], .int .i64 31]) (by simp [results, Tryz.results31, go_sem, q0, q1, q2, q3, q4, q5]) rfl (HNO.out W9 31 HE31.out.symm (by decide) hf9)
              go_wp2_with fail
              go_roundw
              case rel => exact ⟨3 + 1, by omega, by first | rfl | go_num, (fun _ => HT.out.1 (by omega)), (fun _ => HT.out.2.1 (by omega)), (fun _ => HT.out.2.2.1 (by omega)), (fun _ => by trivial), HIX.out⟩
              case measure => simp [intOf]
          · rw [show ((4 : Nat) : Int) = 4 from rfl]
            obtain rfl := HT.out.1 (by omega)
            obtain rfl := HT.out.2.1 (by omega)
            obtain rfl := HT.out.2.2.1 (by omega)
            obtain rfl := HT.out.2.2.2 (by omega)
            go_wp2_with fail
            with_reducible refine (HCK.out _ HIL.out.fr).mono ?_
            rintro e w4 ⟨ck2, rfl, hck2, hf⟩
            subst hck2
            have HI4 := Lib.hid (HIL.out.fresh hf)
            clear hf
            by_cases hc0 : ck = 0
            rotate_left
            · have dc : ((ck : Int) != 0) = true := by simp; omega
              have hEC : backE l = ck := by rw [HBE.out, if_neg HNE.out, if_neg (by rw [HRT.out]; simp), HCKE.out, if_pos hc0]
              have HEC := Lib.hid hEC
              have HC0 := Lib.hid hc0
              clear hEC hc0
              have r0 := HI4.out.rs.cell 0
              have r1 := HI4.out.rs.cell 1
              have r2 := HI4.out.rs.cell 2
              have r3 := HI4.out.rs.cell 3
              have r4 := HI4.out.rs.cell 4
              have r5 := HI4.out.rs.cell 5
              have f0 := HI4.out.rs.frozen 0
              have f1 := HI4.out.rs.frozen 1
              have f2 := HI4.out.rs.frozen 2
              have f3 := HI4.out.rs.frozen 3
              have f4 := HI4.out.rs.frozen 4
              have f5 := HI4.out.rs.frozen 5
              unfold zeroR at r0 r1 r2 r3 r4 r5
              simp at r0 r1 r2 r3 r4 r5
              go_wp2_with fail
              refine wx_gen (fun W => Blk W p 25 zeroR ∧ Fresh w W) ⟨by simpa [zeroR] using ((((((HI4.out.rs).set 0 (.string ⟨#[]⟩)).set 1 (.string ⟨#[]⟩)).set 2 (.string ⟨#[]⟩)).set 3 (.string ⟨#[]⟩)).set 4 (.slice none 0 0)).set 5 (.slice none 0 0), ((((((HI4.out.fr.step _ _ HQB2.out.2.2.2.1).step _ _ HQB2.out.2.2.2.1).step _ _ HQB2.out.2.2.2.1).step _ _ HQB2.out.2.2.2.1).step _ _ HQB2.out.2.2.2.1).step _ _ HQB2.out.2.2.2.1)⟩ ?_
              rintro W9 ⟨hb9, hf9⟩
              have q0 := hb9.cell 0
              have q1 := hb9.cell 1
              have q2 := hb9.cell 2
              have q3 := hb9.cell 3
              have q4 := hb9.cell 4
              have q5 := hb9.cell 5
              unfold zeroR at q0 q1 q2 q3 q4 q5
              simp at q0 q1 q2 q3 q4 q5
              rw [← HQB.out]
              exact bodyPost_ret (v := .tuple #[.agg #[.string ⟨#[]⟩, .string ⟨#[]⟩, .string ⟨#[]⟩, .string ⟨#[]⟩, .slice none 0 0, .slice none 0 0], .int .i64 (ck : Int)]) (by simp [results, Tryz.results31, go_sem, q0, q1, q2, q3, q4, q5]) rfl (HNO.out W9 ck HEC.out.symm HC0.out hf9)
            have dc : ((ck : Int) != 0) = false := by rw [hc0]; rfl
            have HBE2 : Hid (backE l = if nvR 3 l = true then 0 else 32) := Lib.hid (by rw [HBE.out, if_neg HNE.out, if_neg (by rw [HRT.out]; simp), HCKE.out, if_neg (by simp [hc0])])
            clear hc0
            go_wp2_with fail
            go_loopw [95] (fun ix wr => ∃ i : Nat, i ≤ m + 3 ∧ ix = .int .i64 (i : Int) ∧ (∀ (j : Nat) y, j < i → l[j]? = some y → y.2 = (decide (3 ≤ j) && senB y.1.1)) ∧ BkI l w b q p 3 wr) (fun i _ => m + 3 - (intOf i).toNat)
            case atStart => exact ⟨0, by omega, rfl, (fun j y hj => by omega), HI4.out⟩
            case round =>
              obtain ⟨i, hi, rfl, hal, hI5⟩ := hrel
              have HI5 := Lib.hid hI5
              have HAL := Lib.hid hal
              clear hI5 hal
              by_cases hin : i < m + 3
              · have hin' : (i : Int) < ((m + 3 : Nat) : Int) := by omega
                have hin2 : (i : Int) < (m : Int) + 3 := by omega
                have hiw : IntKind.i64.wrap ((i : Int) + 1) = (i : Int) + 1 := IntWalk.i64_in _ (by omega)
                obtain ⟨x, hx⟩ : ∃ x, l[i]? = some x := ⟨_, List.getElem?_eq_getElem (by rw [HN.out]; omega)⟩
                obtain ⟨b9, o9, hbo, hb9, g0, g1, g2⟩ := HM.out.lnAt i x hx
                injection hbo with hbo
                injection hbo with hb8 ho8
                subst hb8 ho8
                have e0 := (HI5.out.fr.cell (p := ⟨b0, o0 + i * 3, none⟩) hb9).trans g0
                have e1 := (HI5.out.fr.cell (p := ⟨b0, o0 + i * 3 + 1, none⟩) hb9).trans g1
                have e2 := (HI5.out.fr.cell (p := ⟨b0, o0 + i * 3 + 2, none⟩) hb9).trans g2
                have HX := Lib.hid hx
                obtain ⟨⟨F1, F2⟩, nv⟩ := x
                simp only at e0 e1 e2
                have HSN := Lib.hid (fun w => cl_sen F1 w)
                obtain ⟨sb, hsb⟩ : ∃ sb, senB F1 = sb := ⟨_, rfl⟩
                rw [hsb] at HSN
                have HSB := Lib.hid hsb
                clear hx g0 g1 g2 hb9 hsb
                have HBAD : Hid (nv ≠ (decide (3 ≤ i) && sb) → backE l = 32) := Lib.hid (fun h => by
                  rw [HBE2.out, if_neg]
                  intro hnv
                  apply h
                  have := nvR_at hnv HX.out
                  simp only at this
                  rw [HSB.out] at this
                  exact this)
                have HGO : Hid (nv = (decide (3 ≤ i) && sb) → ∀ (j : Nat) y, j < i + 1 → l[j]? = some y → y.2 = (decide (3 ≤ j) && senB y.1.1)) := Lib.hid (fun h j y hj hy => by
                  by_cases e : j = i
                  · subst e
                    have h1 := HX.out
                    rw [hy] at h1
                    cases h1
                    simp only
                    rw [HSB.out]
                    exact h
                  · exact HAL.out j y (by omega) hy)
                go_upto_region 21 with fail
                refine wp_gen (fun W => Blk W wr.heap.size 38 #[.string F1, .string F2, .bool nv] ∧ Fresh wr W) ⟨Blk.new wr _ _, Fresh.alloc _ _⟩ ?_
                rintro W5 ⟨hbw, hfw⟩
                obtain ⟨yy, hyy⟩ : ∃ y, wr.heap.size = y := ⟨_, rfl⟩
                rw [hyy] at hbw ⊢
                clear hyy e0 e1 e2
                obtain ⟨y0, y1, y2⟩ := hbw.c3
                have HI6 := Lib.hid (HI5.out.fresh hfw)
                clear hbw hfw
                have hsplit : (3 ≤ i ∧ (decide (3 ≤ i)) = true) ∨ (i < 3 ∧ (decide (3 ≤ i)) = false) := by
                  by_cases h : 3 ≤ i
                  · exact .inl ⟨h, decide_eq_true h⟩
                  · exact .inr ⟨by omega, decide_eq_false h⟩
                rcases hsplit with ⟨h3, h4⟩ | ⟨h3, h4⟩
                · have d1 : (3 : Int) ≤ (i : Int) := by omega
                  rw [h4, Bool.true_and] at HBAD HGO
                  clear h3
                  cases nv
                  all_goals
                    cases sb
                    all_goals
                      go_quiet ((go_at_call 32; exact Calls.quiet_of_same (HSN.out _)))
                      all_goals
                        refine wx_gen (BkI l w b q p 3) (HI6.out.fresh (Fresh.drewN _ _)) ?_
                        clear y0 y1 y2
                        rintro W7 hI7
                        have HI7 := Lib.hid hI7
                        clear hI7
                        first
                          | (have HGO2 := Lib.hid (HGO.out rfl)
                             go_wp2_with fail
                             go_roundw
                             case rel => exact ⟨i + 1, by omega, by go_num, HGO2.out, HI7.out⟩
                             case measure => simp [intOf]; omega)
                          | (have HE32 := Lib.hid (HBAD.out (by decide))
                             have r0 := HI7.out.rs.cell 0
                             have r1 := HI7.out.rs.cell 1
                             have r2 := HI7.out.rs.cell 2
                             have r3 := HI7.out.rs.cell 3
                             have r4 := HI7.out.rs.cell 4
                             have r5 := HI7.out.rs.cell 5
                             have f0 := HI7.out.rs.frozen 0
                             have f1 := HI7.out.rs.frozen 1
                             have f2 := HI7.out.rs.frozen 2
                             have f3 := HI7.out.rs.frozen 3
                             have f4 := HI7.out.rs.frozen 4
                             have f5 := HI7.out.rs.frozen 5
                             unfold zeroR at r0 r1 r2 r3 r4 r5
                             simp at r0 r1 r2 r3 r4 r5
                             go_wp2_with fail
                             refine wx_gen (fun W => Blk W p 25 zeroR ∧ Fresh w W) ⟨by simpa [zeroR] using ((((((HI7.out.rs).set 0 (.string ⟨#[]⟩)).set 1 (.string ⟨#[]⟩)).set 2 (.string ⟨#[]⟩)).set 3 (.string ⟨#[]⟩)).set 4 (.slice none 0 0)).set 5 (.slice none 0 0), ((((((HI7.out.fr.step _ _ HQB2.out.2.2.2.1).step _ _ HQB2.out.2.2.2.1).step _ _ HQB2.out.2.2.2.1).step _ _ HQB2.out.2.2.2.1).step _ _ HQB2.out.2.2.2.1).step _ _ HQB2.out.2.2.2.1)⟩ ?_
                             rintro W9 ⟨hb9, hf9⟩
                             have q0 := hb9.cell 0
                             have q1 := hb9.cell 1
                             have q2 := hb9.cell 2
                             have q3 := hb9.cell 3
                             have q4 := hb9.cell 4
                             have q5 := hb9.cell 5
                             unfold zeroR at q0 q1 q2 q3 q4 q5
                             simp at q0 q1 q2 q3 q4 q5
                             rw [← HQB.out]
                             exact bodyPost_ret (v := .tuple #[.agg #[.string ⟨#[]⟩, .string ⟨#[]⟩, .string ⟨#[]⟩, .string ⟨#[]⟩, .slice none 0 0, .slice none 0 0], .int .i64 32]) (by simp [results, Tryz.results31, go_sem, q0, q1, q2, q3, q4, q5]) rfl (HNO.out W9 32 HE32.out.symm (by decide) hf9))
                · have d1 : decide ((3 : Int) ≤ (i : Int)) = false := decide_eq_false (by omega)
                  rw [h4, Bool.false_and] at HBAD HGO
                  clear h3
                  cases nv
                  all_goals
                    go_quiet ((go_at_call 32; exact Calls.quiet_of_same (HSN.out _)))
                    all_goals
                      refine wx_gen (BkI l w b q p 3) (HI6.out.fresh (Fresh.drewN _ _)) ?_
                      clear y0 y1 y2
                      rintro W7 hI7
                      have HI7 := Lib.hid hI7
                      clear hI7
                      first
                        | (have HGO2 := Lib.hid (HGO.out rfl)
                           go_wp2_with fail
                           go_roundw
                           case rel => exact ⟨i + 1, by omega, by go_num, HGO2.out, HI7.out⟩
                           case measure => simp [intOf]; omega)
                        | (have HE32 := Lib.hid (HBAD.out (by decide))
                           have r0 := HI7.out.rs.cell 0
                           have r1 := HI7.out.rs.cell 1
                           have r2 := HI7.out.rs.cell 2
                           have r3 := HI7.out.rs.cell 3
                           have r4 := HI7.out.rs.cell 4
                           have r5 := HI7.out.rs.cell 5
                           have f0 := HI7.out.rs.frozen 0
                           have f1 := HI7.out.rs.frozen 1
                           have f2 := HI7.out.rs.frozen 2
                           have f3 := HI7.out.rs.frozen 3
                           have f4 := HI7.out.rs.frozen 4
                           have f5 := HI7.out.rs.frozen 5
                           unfold zeroR at r0 r1 r2 r3 r4 r5
                           simp at r0 r1 r2 r3 r4 r5
                           go_wp2_with fail
                           refine wx_gen (fun W => Blk W p 25 zeroR ∧ Fresh w W) ⟨by simpa [zeroR] using ((((((HI7.out.rs).set 0 (.string ⟨#[]⟩)).set 1 (.string ⟨#[]⟩)).set 2 (.string ⟨#[]⟩)).set 3 (.string ⟨#[]⟩)).set 4 (.slice none 0 0)).set 5 (.slice none 0 0), ((((((HI7.out.fr.step _ _ HQB2.out.2.2.2.1).step _ _ HQB2.out.2.2.2.1).step _ _ HQB2.out.2.2.2.1).step _ _ HQB2.out.2.2.2.1).step _ _ HQB2.out.2.2.2.1).step _ _ HQB2.out.2.2.2.1)⟩ ?_
                           rintro W9 ⟨hb9, hf9⟩
                           have q0 := hb9.cell 0
                           have q1 := hb9.cell 1
                           have q2 := hb9.cell 2
                           have q3 := hb9.cell 3
                           have q4 := hb9.cell 4
                           have q5 := hb9.cell 5
                           unfold zeroR at q0 q1 q2 q3 q4 q5
                           simp at q0 q1 q2 q3 q4 q5
                           rw [← HQB.out]
                           exact bodyPost_ret (v := .tuple #[.agg #[.string ⟨#[]⟩, .string ⟨#[]⟩, .string ⟨#[]⟩, .string ⟨#[]⟩, .slice none 0 0, .slice none 0 0], .int .i64 32]) (by simp [results, Tryz.results31, go_sem, q0, q1, q2, q3, q4, q5]) rfl (HNO.out W9 32 HE32.out.symm (by decide) hf9))
              · obtain rfl : i = m + 3 := by omega
                have hE0 : backE l = 0 := by
                  rw [HBE2.out, if_pos (nvR_all (fun j y hy => HAL.out j y (by
                    have := (List.getElem?_eq_some_iff.1 hy).1
                    rw [HN.out] at this
                    omega) hy))]
                have HE0 := Lib.hid hE0
                clear hE0 hin
                go_wp2_with fail
                with_reducible refine (HFD.out _ HI5.out.fr).mono ?_
                rintro e w6 ⟨P, rfl, hP, hmf, hf⟩
                have HI6 := Lib.hid (HI5.out.fresh hf)
                have HP6 := Lib.hid hP
                have HMF := Lib.hid hmf
                have HBP : Hid (P ≠ b ∧ P ≠ p) := Lib.hid (by
                  have h1 := HI5.out.row.lt
                  have h2 := HI5.out.rs.lt
                  omega)
                clear hf hP hmf
                have z4 := (HROW.out _ HI6.out).2.2.2.2.cell 4
                have f4 := (HROW.out _ HI6.out).2.2.2.2.frozen 4
                simp at z4
                go_upto_region 25 with fail
                refine wp_gen (fun W => Blk W b 25 #[.string tm, .string ts, .string tp, .string ta, .slice (some ⟨P, 0, none⟩) m m, .slice none 0 0] ∧ Blk W p 25 zeroR ∧ Fresh w W ∧ Many fldD 2 W (some ⟨P, 0, none⟩) (tl.map (·.1))) ⟨by simpa using (HROW.out _ HI6.out).2.2.2.2.set 4 (.slice (some ⟨P, 0, none⟩) m m), HI6.out.rs.far HQB2.out.2.1 _, HI6.out.fr.step _ _ HQB2.out.2.2.1, by have h0 : Only (fun k => k = b) w6 w6 := Only.of_fresh (Fresh.refl _); exact HMF.out.only (h0.step ⟨b, 4, none⟩ _ (.inl rfl)) (fun b' o' e => by cases e; exact HBP.out.1)⟩ ?_
                rintro W8 ⟨h81, h82, h83, h84⟩
                have H82 := Lib.hid h82
                have H83 := Lib.hid h83
                have H84 := Lib.hid h84
                have v0 := h81.cell 0
                have v1 := h81.cell 1
                have v2 := h81.cell 2
                have v3 := h81.cell 3
                have v4 := h81.cell 4
                have v5 := h81.cell 5
                simp at v0 v1 v2 v3 v4 v5
                clear z4 f4 h81 h82 h83 h84
                have r0 := H82.out.cell 0
                have r1 := H82.out.cell 1
                have r2 := H82.out.cell 2
                have r3 := H82.out.cell 3
                have r4 := H82.out.cell 4
                have r5 := H82.out.cell 5
                have f0 := H82.out.frozen 0
                have f1 := H82.out.frozen 1
                have f2 := H82.out.frozen 2
                have f3 := H82.out.frozen 3
                have f4 := H82.out.frozen 4
                have f5 := H82.out.frozen 5
                unfold zeroR at r0 r1 r2 r3 r4 r5
                simp at r0 r1 r2 r3 r4 r5
                go_wp2_with fail
                refine wx_gen (fun W => Blk W p 25 #[.string tm, .string ts, .string tp, .string ta, .slice (some ⟨P, 0, none⟩) m m, .slice none 0 0] ∧ Fresh w W ∧ Many fldD 2 W (some ⟨P, 0, none⟩) (tl.map (·.1))) ⟨by simpa [zeroR] using ((((((H82.out).set 0 (.string tm)).set 1 (.string ts)).set 2 (.string tp)).set 3 (.string ta)).set 4 (.slice (some ⟨P, 0, none⟩) m m)).set 5 (.slice none 0 0), ((((((H83.out.step _ _ HQB2.out.2.2.2.1).step _ _ HQB2.out.2.2.2.1).step _ _ HQB2.out.2.2.2.1).step _ _ HQB2.out.2.2.2.1).step _ _ HQB2.out.2.2.2.1).step _ _ HQB2.out.2.2.2.1), by have h0 : Only (fun k => k = p) W8 W8 := Only.of_fresh (Fresh.refl _); exact H84.out.only ((((((h0.step ⟨p, 0, none⟩ _ (.inl rfl)).step ⟨p, 1, none⟩ _ (.inl rfl)).step ⟨p, 2, none⟩ _ (.inl rfl)).step ⟨p, 3, none⟩ _ (.inl rfl)).step ⟨p, 4, none⟩ _ (.inl rfl)).step ⟨p, 5, none⟩ _ (.inl rfl)) (fun b' o' e => by cases e; exact HBP.out.2)⟩ ?_
                rintro W9 ⟨hb9, hf9, hm9⟩
                have q0 := hb9.cell 0
                have q1 := hb9.cell 1
                have q2 := hb9.cell 2
                have q3 := hb9.cell 3
                have q4 := hb9.cell 4
                have q5 := hb9.cell 5
                simp at q0 q1 q2 q3 q4 q5
                rw [← HQB.out]
                exact bodyPost_ret (v := .tuple #[.agg #[.string tm, .string ts, .string tp, .string ta, .slice (some ⟨P, 0, none⟩) m m, .slice none 0 0], .int .i64 0]) (by simp [results, Tryz.results31, go_sem, q0, q1, q2, q3, q4, q5]) rfl (HFIN.out _ W9 HE0.out hm9 hf9)
end Go.Proofs.YtapikjhfgcbifaaGreatDoor

