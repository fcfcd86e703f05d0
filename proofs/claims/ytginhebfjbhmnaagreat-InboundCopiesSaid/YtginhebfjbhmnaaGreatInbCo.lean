/-
  The law InboundCopies.
-/
import Derived.Test.YtginhebfjbhmnaaGreatInbK
namespace Go.Proofs.YtginhebfjbhmnaaGreat
set_option maxRecDepth 100000
set_option linter.unusedVariables false
set_option linter.unusedSimpArgs false
open Go.RowKit
/-- No bytes of a frame wait. -/
def Emp (st : RiSt) : Prop := ∀ l s bg, st = some (l, s, bg) → l = []
theorem Emp.feed {st : RiSt} (h : Emp st) {f : Fr} (hst : f.st ≤ 2147483647) (hl : f.pl.length ≤ 600) : Emp (feedX st (frB2 f.x f.y f.st f.pl)).2.2 ∧ (feedX st (frB2 f.x f.y f.st f.pl)).1.length ≤ 1 := by
  cases st with
  | none => exact ⟨fun l s bg e => (by cases e), by simp [feedX]⟩
  | some q =>
    obtain ⟨l, s, bg⟩ := q
    obtain rfl := h l s bg rfl
    rw [feedX_one hst hl s bg _ rfl]
    split
    · refine ⟨fun l' s' bg' e => ?_, ?_⟩
      · injection e with e
        injection e with e _
        exact e.symm
      · simp only
        split <;> simp
    · exact ⟨fun l s bg e => (by cases e), by simp⟩
/-- What frames do to a reader, each in a chunk of its own. -/
def runX (st : RiSt) : List Fr → List Ev × RiSt
  | [] => ([], st)
  | f :: r => ((feedX st (frB2 f.x f.y f.st f.pl)).1 ++ (runX (feedX st (frB2 f.x f.y f.st f.pl)).2.2 r).1, (runX (feedX st (frB2 f.x f.y f.st f.pl)).2.2 r).2)
theorem runX_append (a b : List Fr) : ∀ st, runX st (a ++ b) = ((runX st a).1 ++ (runX (runX st a).2 b).1, (runX (runX st a).2 b).2) := by
  induction a with
  | nil => intro st; simp [runX]
  | cons f r ih =>
    intro st
    simp only [List.cons_append, runX, ih, List.append_assoc]
theorem runX_at {st : RiSt} {F : List Fr} {k : Nat} {evs : List Ev} {s1 : RiSt} (h : runX st (F.take k) = (evs, s1)) (f : Fr) (hf : F[k]? = some f) {ev : List Ev} {co : Int} {s2 : RiSt} (hq : feedX s1 (frB2 f.x f.y f.st f.pl) = (ev, co, s2)) : runX st (F.take (k + 1)) = (evs ++ ev, s2) := by
  obtain ⟨hk, he⟩ := List.getElem?_eq_some_iff.1 hf
  rw [List.take_succ_eq_append_getElem hk, he, runX_append, h]
  simp only [runX, hq, List.append_nil]
/-- While the copy reads: the reader beside it. -/
structure Cp2 (w wr : World) (bc p q : Nat) (st : RiSt) (T : Nat → Prop) (F : List Fr) (k : Nat) (GV : Value) (ys : List EvV) (stc : RiSt) (Tc : Nat → Prop) : Prop where
  fr : Fresh w wr
  r : RiS w wr p st T
  tl : ∀ i, T i → i < bc
  c : RiS w wr q stc Tc
  cl : ∀ i, Tc i → bc ≤ i
  got : OwnE wr bc GV ys
  gx : ∀ y ∈ ys, y.off Tc
  lo : w.heap.size ≤ bc ∧ bc ≤ wr.heap.size
  run : runX st (F.take k) = (ys.map EvV.e, stc)
  emp : Emp stc
  cnt : ys.length ≤ k
theorem Cp2.fresh {w wr wr' : World} {bc p q : Nat} {st : RiSt} {T : Nat → Prop} {F : List Fr} {k : Nat} {GV : Value} {ys : List EvV} {stc : RiSt} {Tc : Nat → Prop} (h : Cp2 w wr bc p q st T F k GV ys stc Tc) (hf : Fresh wr wr') : Cp2 w wr' bc p q st T F k GV ys stc Tc :=
  ⟨h.fr.trans hf, h.r.fresh hf, h.tl, h.c.fresh hf, h.cl, h.got.fresh hf, h.gx, ⟨h.lo.1, by have := h.lo.2; have := hf.size; omega⟩, h.run, h.emp, h.cnt⟩
theorem Cp2.feed {w W W1 W2 : World} {bc p q : Nat} {st : RiSt} {T : Nat → Prop} {F : List Fr} {k : Nat} {GV : Value} {ys : List EvV} {stc : RiSt} {Tc : Nat → Prop} (h : Cp2 w W bc p q st T F k GV ys stc Tc) (f : Fr) (hf : F[k]? = some f) {zs : List EvV} {YA : Option Addr} {yn yc : Nat} {ev : List Ev} {co : Int} {st' : RiSt} {T' : Nat → Prop}
    (hfx : feedX stc (frB2 f.x f.y f.st f.pl) = (ev, co, st')) (hst : f.st ≤ 2147483647) (hl : f.pl.length ≤ 600) (hy : OwnE W1 W.heap.size (.slice YA yn yc) zs) (hye : zs.map EvV.e = ev) (hyn : zs.length = yn) (ho : Only Tc W W1) (hr : RiS w W1 q st' T') (hg : ∀ i, T' i → Tc i ∨ W.heap.size ≤ i) (hyo : ∀ y ∈ zs, y.off T') (hf2 : Fresh W1 W2) (n m : Nat) (hn : ys.length = n) (hm : n + yn = m) (hk : k ≤ 1000) :
    ∃ A' c' W3, (Builtin.append_ #[29, 29] 29 #[GV, .slice YA yn yc]).run Tryz.prog W2 = .ok (.slice A' m c') W3 ∧ Cp2 w W3 bc p q st T F (k + 1) (.slice A' m c') (ys ++ zs) st' T' := by
  have hlo := h.lo
  have hz1 := ho.size
  have hz2 := hf2.size
  obtain ⟨hem, hevl⟩ := h.emp.feed hst hl
  rw [hfx] at hem hevl
  simp only at hem hevl
  have hyl : yn ≤ 1 := by rw [← hyn, ← List.length_map (f := EvV.e), hye]; exact hevl
  have hcnt := h.cnt
  obtain ⟨hgot1, hgx1⟩ := h.got.feedT h.c h.gx ho hg
  have hgv : ∀ i, GV.ownBlock = some i → bc ≤ i ∧ i < W.heap.size := fun i hi => ⟨(h.got.blk hi).1, (h.got.blk hi).2.1⟩
  obtain ⟨A', c', W3, hrun, hgot3, hO3, hn3⟩ := (hgot1.fresh hf2).append (by omega) (hy.fresh hf2) (by omega) (fun y hys => (hy.2.1 y hys).low.mono (fun i e => (hgv i e).2)) n m hn hm (by omega)
  have hz3 := hO3.size
  have hfr1 : Fresh w W1 := Only.fresh ((Only.of_fresh h.fr).trans ho) (fun i hi e => by have := (h.c.lo i e).1; omega)
  have hr1 : RiS w W1 p st T := h.r.only ho (fun i hi e => by have := h.tl i hi; have := h.cl i e; omega) (fun i e => (h.c.lo i e).1)
  have hgot2 := hgot1.fresh hf2
  refine ⟨A', c', W3, hrun, ⟨Only.fresh ((Only.of_fresh (hfr1.trans hf2)).trans hO3) (fun i hi e => by have := hgv i e; omega), (hr1.fresh hf2).only hO3 (fun i hi e => by have := h.tl i hi; have := hgv i e; omega) (fun i e => by have := hgv i e; omega), h.tl, (hr.fresh hf2).only hO3 (fun i hi e => ?_) (fun i e => by have := hgv i e; omega), fun i hi => ?_, hgot3, fun x hx => ?_, ⟨hlo.1, by omega⟩, ?_, hem, by simp only [List.length_append]; omega⟩⟩
  · obtain ⟨_, _, cs, hb⟩ := hgot2.blk e
    exact (hr.fresh hf2).odd hb (by decide) hi
  · rcases hg i hi with e | e
    · exact h.cl i e
    · omega
  · rcases List.mem_append.1 hx with hx | hx
    · exact hgx1 x hx
    · exact hyo x hx
  · rw [List.map_append, hye]
    exact runX_at h.run f hf hfx
/-- While the reader goes on: what its copy said. -/
structure Cp3 (w wr : World) (bc b1 p q : Nat) (st : RiSt) (F : List Fr) (k : Nat) (GV : Value) (ys : List EvV) (stc : RiSt) (Tc : Nat → Prop) (K : Nat) (evs : List Ev) (str : RiSt) (Tr : Nat → Prop) : Prop where
  fr : Fresh w wr
  r : RiS w wr p str Tr
  tr : ∀ i, Tr i → i < bc ∨ b1 ≤ i
  c : RiS w wr q stc Tc
  cl : ∀ i, Tc i → bc ≤ i ∧ i < b1
  got : OwnE wr bc GV ys
  gx : ∀ y ∈ ys, y.off (fun i => i < bc ∨ b1 ≤ i)
  lo : w.heap.size ≤ bc ∧ b1 ≤ wr.heap.size
  run : runX st (F.take k) = (evs, str)
  len : evs.length = K
  emp : Emp str
theorem Cp3.fresh {w wr wr' : World} {bc b1 p q : Nat} {st : RiSt} {F : List Fr} {k : Nat} {GV : Value} {ys : List EvV} {stc : RiSt} {Tc : Nat → Prop} {K : Nat} {evs : List Ev} {str : RiSt} {Tr : Nat → Prop} (h : Cp3 w wr bc b1 p q st F k GV ys stc Tc K evs str Tr) (hf : Fresh wr wr') : Cp3 w wr' bc b1 p q st F k GV ys stc Tc K evs str Tr :=
  ⟨h.fr.trans hf, h.r.fresh hf, h.tr, h.c.fresh hf, h.cl, h.got.fresh hf, h.gx, ⟨h.lo.1, by have := h.lo.2; have := hf.size; omega⟩, h.run, h.len, h.emp⟩
theorem Cp3.feed {w W W1 : World} {bc b1 p q : Nat} {st : RiSt} {F : List Fr} {k : Nat} {GV : Value} {ys : List EvV} {stc : RiSt} {Tc : Nat → Prop} {K : Nat} {evs : List Ev} {str : RiSt} {Tr : Nat → Prop} (h : Cp3 w W bc b1 p q st F k GV ys stc Tc K evs str Tr) (f : Fr) (hf : F[k]? = some f) {ev : List Ev} {co : Int} {st' : RiSt} {T' : Nat → Prop}
    (hfx : feedX str (frB2 f.x f.y f.st f.pl) = (ev, co, st')) (hst : f.st ≤ 2147483647) (hl : f.pl.length ≤ 600) (ho : Only Tr W W1) (hr : RiS w W1 p st' T') (hg : ∀ i, T' i → Tr i ∨ W.heap.size ≤ i) (yn : Nat) (hyn : ev.length = yn) : Cp3 w W1 bc b1 p q st F (k + 1) GV ys stc Tc (K + yn) (evs ++ ev) st' T' := by
  have hlo := h.lo
  have hz1 := ho.size
  obtain ⟨hem, hevl⟩ := h.emp.feed hst hl
  rw [hfx] at hem
  refine ⟨Only.fresh ((Only.of_fresh h.fr).trans ho) (fun i hi e => by have := (h.r.lo i e).1; omega), hr, fun i hi => ?_, h.c.only ho (fun i hi e => by have := h.cl i hi; rcases h.tr i e with h1 | h1 <;> omega) (fun i e => (h.r.lo i e).1), h.cl, h.got.only ho (fun i hi => ?_) (fun g cs hb => h.r.odd hb (by decide)) (fun x hx => (h.gx x hx).mono h.tr), h.gx, ⟨hlo.1, by omega⟩, runX_at h.run f hf hfx, by rw [List.length_append, h.len, hyn], hem⟩
  · rcases hg i hi with e | e
    · exact h.tr i e
    · exact .inr (by omega)
  · obtain ⟨_, _, cs, hb⟩ := h.got.blk hi
    exact h.r.odd hb (by decide)
theorem run_loadP {P : Program} {w : World} {ρ : Operand → Value} {o : Oper} {x : Operand} {t : TypeId} (ho : o.op = .load t x) {b k : Nat} {a0 a1 a2 a3 a4 a5 a6 a7 : Value} (hx : ρ x = .pointer (some ⟨b, k, none⟩)) (hB : ∀ j, j < 8 → w.cell? ⟨b, k + j, none⟩ = #[a0, a1, a2, a3, a4, a5, a6, a7][j]?) (hi : (P.info? t).map (·.size) = some 8) (ha : ∀ w, (isAgg t).run P w = .ok true w) : (execOp ρ o).run P w = .ok (.value (.agg #[a0, a1, a2, a3, a4, a5, a6, a7])) w := by
  obtain ⟨i, hi1, hi2⟩ := Option.map_eq_some_iff.1 hi
  have hld := run_loadCells_list (P := P) (w := w) ⟨b, k, none⟩ [a0, a1, a2, a3, a4, a5, a6, a7] (fun j v hv => by
    rw [add_eq _ _ rfl, hB j (by have := (List.getElem?_eq_some_iff.1 hv).1; simpa using this)]
    simpa using hv)
  have hrun : (loadVar t ⟨b, k, none⟩).run P w = .ok (.agg #[a0, a1, a2, a3, a4, a5, a6, a7]) w := by
    rw [loadVar]
    simp [ha, Result.andThen, sizeOf, typeInfo, hi1, hi2]
    simp at hld
    rw [hld]
  simp [execOp, ho, hx, Instr.loadAt, Instr.sureAddr, hrun, Result.andThen]
def SCo (w : World) (ga o gb : Nat) (cs ds : Array Value) : Prop := (∀ j, j < 8 → w.cell? ⟨ga, o + j, none⟩ = cs[j]?) ∧ Blk w gb 42 ds
structure Cp1 (w wr : World) (p : Nat) (st : RiSt) (T : Nat → Prop) : Prop where
  fr : Fresh w wr
  r : RiS w wr p st T
  emp : Emp st
theorem Cp1.fresh {w wr wr' : World} {p : Nat} {st : RiSt} {T : Nat → Prop} (h : Cp1 w wr p st T) (hf : Fresh wr wr') : Cp1 w wr' p st T := ⟨h.fr.trans hf, h.r.fresh hf, h.emp⟩
set_option maxHeartbeats 25600000 in
theorem InboundCopies_any (s t : FrsV) (w : World) (hs : s.OkW w) (ht : t.OkW w) :
    Calls Tryz.prog 6 #[.slice s.A s.xs.length s.c, .slice t.A t.xs.length t.c] w fun e w' => e = .returned (.bool true) ∧ Below w.heap.size w w' := by
  have HNEW := Lib.hid (fun W (hf : Fresh w W) => in_new w W hf)
  unfold InNewP at HNEW
  have HW := Lib.hid awake23
  have HSA := Lib.hid (fun W (hf : Fresh w W) => small23 s W ⟨hs.ok.fresh hf, hs.sz⟩)
  have HSB := Lib.hid (fun W (hf : Fresh w W) => small23 t W ⟨ht.ok.fresh hf, ht.sz⟩)
  unfold SmallGP at HSA HSB
  obtain ⟨A, c, fxs⟩ := s
  obtain ⟨A', c', gxs⟩ := t
  have HR1 := Lib.hid hs.ok.rows
  have HO1 := Lib.hid hs.ok.ok
  have HR2 := Lib.hid ht.ok.rows
  have HO2 := Lib.hid ht.ok.ok
  simp only [] at HR1 HO1 HR2 HO2 HSA HSB ⊢
  clear hs ht
  obtain ⟨m, hm⟩ : ∃ m, fxs.length = m := ⟨_, rfl⟩
  have HM1 := Lib.hid hm
  obtain ⟨m2, hm2⟩ : ∃ m, gxs.length = m := ⟨_, rfl⟩
  have HM2 := Lib.hid hm2
  rw [hm] at HSA ⊢
  rw [hm2] at HSB ⊢
  clear hm hm2
  go_enter Tryz.func6, Tryz.ntmps6
  go_wp2_with fail
  with_reducible refine (HNEW.out _ (Fresh.refl _)).mono ?_
  rintro e W1 ⟨P, rfl, hip, hlp, hf1⟩
  have HC1 : Hid (Cp1 w W1 P.p (some ([], none, false)) P.has) := Lib.hid ⟨hf1, RiS.of hip, fun l s bg e => by cases e; rfl⟩
  obtain ⟨p, hp⟩ : ∃ p, P.p = p := ⟨_, rfl⟩
  rw [hp] at HC1 ⊢
  generalize P.has = TP at HC1
  clear hip hlp hf1 HNEW hp
  go_wp2_with fail
  with_reducible refine (HSA.out _ HC1.out.fr).mono ?_
  rintro e W2 ⟨bs, rfl, hbs, hf2⟩
  have HC1 := Lib.hid (HC1.out.fresh hf2)
  clear hf2 HSA
  cases bs with
  | false =>
    clear hbs
    go_wp2_with fail
    with_reducible refine (HW.out _).mono ?_
    rintro e W4 ⟨rfl, hf4⟩
    go_wp2
    go_ret
    exact ⟨rfl, HC1.out.fr.trans hf4⟩
  | true =>
    have HS1 := Lib.hid (hbs rfl)
    clear hbs
    go_wp2_with fail
    with_reducible refine (HSB.out _ HC1.out.fr).mono ?_
    rintro e W3 ⟨bs, rfl, hbs, hf3⟩
    have HC1 := Lib.hid (HC1.out.fresh hf3)
    clear hf3 HSB
    cases bs with
    | false =>
      clear hbs
      go_wp2_with fail
      with_reducible refine (HW.out _).mono ?_
      rintro e W4 ⟨rfl, hf4⟩
      go_wp2
      go_ret
      exact ⟨rfl, HC1.out.fr.trans hf4⟩
    | true =>
      have HS2 := Lib.hid (hbs rfl)
      clear hbs
      have HE1 := Lib.hid (totG_each HS1.out.1)
      have HE2 := Lib.hid (totG_each HS2.out.1)
      have hm60 : m ≤ 60 := by
        have h1 := totG_len fxs
        have h2 := HS1.out.1
        rw [HM1.out] at h1
        omega
      have hm260 : m2 ≤ 60 := by
        have h1 := totG_len gxs
        have h2 := HS2.out.1
        rw [HM2.out] at h1
        omega
      obtain ⟨F, hF⟩ : ∃ F, fxs.map frOf = F := ⟨_, rfl⟩
      have HX1 : Hid (∀ k x, fxs[k]? = some x → F[k]? = some (frOf x)) := Lib.hid (fun k x hx => by rw [← hF, List.getElem?_map, hx]; rfl)
      obtain ⟨G, hG⟩ : ∃ G, gxs.map frOf = G := ⟨_, rfl⟩
      have HX2 : Hid (∀ k x, gxs[k]? = some x → G[k]? = some (frOf x)) := Lib.hid (fun k x hx => by rw [← hG, List.getElem?_map, hx]; rfl)
      have HGL : Hid (G.length = m2) := Lib.hid (by rw [← hG, List.length_map, HM2.out])
      clear hF hG
      go_upto_region 5 with fail
      go_wp2
      go_loopw [49] (fun i wr => ∃ (k : Nat) (st : RiSt) (T : Nat → Prop), k ≤ m ∧ i = .int .i64 (k : Int) ∧ Cp1 w wr p st T) (fun i _ => m - (intOf i).toNat)
      case atStart => exact ⟨0, _, _, by omega, rfl, HC1.out⟩
      case round =>
        obtain ⟨k, st, T, hk, rfl, hck⟩ := hrel
        have HC := Lib.hid hck
        clear hck HC1
        by_cases hlt : k < m
        · have hlt' : (k : Int) < (m : Int) := by omega
          obtain ⟨z, hz⟩ : ∃ z, fxs[k]? = some z := ⟨_, List.getElem?_eq_getElem (by rw [HM1.out]; exact hlt)⟩
          have HFK := Lib.hid (HX1.out k z hz)
          have hzm := List.mem_of_getElem? hz
          have hz6 := HE1.out z hzm
          obtain ⟨n, hn⟩ : ∃ n, z.l.length = n := ⟨_, rfl⟩
          have HFB := Lib.hid (fun W (hf : Fresh w W) => fb_of (x := z) hn (HS1.out.2 z hzm) (by omega) W ((HO1.out z hzm).fresh hf))
          unfold BytesN at HFB
          obtain ⟨f, hfo⟩ : ∃ f, frOf z = f := ⟨_, rfl⟩
          have HFO : Hid (f.st ≤ 2147483647 ∧ f.pl.length ≤ 600 ∧ f.pl.length = n) := Lib.hid (by
            obtain ⟨_, _, _, h4, h5⟩ := frOf_ok (HS1.out.2 z hzm)
            rw [hfo] at h4 h5
            exact ⟨h4, by rw [h5]; omega, by rw [h5, hn]⟩)
          rw [hfo] at HFK HFB
          obtain ⟨b, o, rfl, hbw, k0, k1, k2, k3⟩ := HR1.out.at_ k z hz
          simp only [FrV.cells, List.getElem?_cons_zero, List.getElem?_cons_succ] at k0 k1 k2 k3
          have j0 := (HC.out.fr.cell (p := ⟨b, o + k * 4, none⟩) hbw).trans k0
          have j1 := (HC.out.fr.cell (p := ⟨b, o + k * 4 + 1, none⟩) hbw).trans k1
          have j2 := (HC.out.fr.cell (p := ⟨b, o + k * 4 + 2, none⟩) hbw).trans k2
          have j3 := (HC.out.fr.cell (p := ⟨b, o + k * 4 + 3, none⟩) hbw).trans k3
          clear hz hzm hfo
          obtain ⟨ty, fl, stm, YA, yc, zl⟩ := z
          simp only at j0 j1 j2 j3 hz6 hn HFB
          rw [hn] at j3 hz6
          clear k0 k1 k2 k3 hn
          go_upto_region 7 with (first | (refine wp_storeB (ds := #[.int .i64 ty, .int .i64 fl, .int .i64 stm, .slice YA n yc]) rfl (.tmp 7) (.tmp 52) _ rfl rfl rfl (Blk.new _ _ _) (by kernel_rfl) rfl (by simp [Value.oneCell']) ?_) | fail)
          intro W5 hb5 ho5
          have hf5 : Fresh wr W5 := Only.fresh ((Only.of_fresh (Fresh.alloc _ _)).trans ho5) (fun i hi e => by omega)
          have HB5 := Lib.hid hb5
          have HC := Lib.hid (HC.out.fresh hf5)
          obtain ⟨bx, hbx⟩ : ∃ b, wr.heap.size = b := ⟨_, rfl⟩
          rw [hbx] at HB5 ⊢
          clear hb5 ho5 hf5 hbx j0 j1 j2 j3 hbw
          go_wp2_with (first | (refine wp_loadB rfl (.tmp 7) _ rfl rfl HB5.out (by kernel_rfl) (fun w => by simp [isAgg, go_sem]) ?_) | fail)
          with_reducible refine (HFB.out _ HC.out.fr).mono ?_
          rintro e W6 ⟨BA, bcp, rfl, hbc, hbm, hob, hf6⟩
          have HC := Lib.hid (HC.out.fresh hf6)
          have HOB := Lib.hid hob.bytes.1
          clear hob hf6 HB5 HFB hbc hbm
          have hflen : (frB2 f.x f.y f.st f.pl).length = 9 + n := by rw [frB2_length, HFO.out.2.2]
          obtain ⟨⟨ev, co', st'⟩, hfx⟩ : ∃ q, feedX st (frB2 f.x f.y f.st f.pl) = q := ⟨_, rfl⟩
          obtain ⟨cb', hcb'⟩ : ∃ cb', decide (co' ≠ 0) = cb' := ⟨_, rfl⟩
          have HEM : Hid (Emp st') := Lib.hid (by
            have := (HC.out.emp.feed HFO.out.1 HFO.out.2.1).1
            rw [hfx] at this
            exact this)
          have HFD := Lib.hid (in_feedS w W6 p st T BA (9 + n) bcp (frB2 f.x f.y f.st f.pl) HC.out.r hflen HOB.out (by omega) ev co' cb' st' hfx hcb')
          unfold InFeedS at HFD
          clear hfx hcb' hflen
          go_wp2_with fail
          with_reducible refine HFD.out.mono ?_
          clear HFD
          rintro e W9 ⟨vs, YA2, yn, yc2, T', rfl, hyn, hoy, hye, ho9, hr9, hg9, hx9⟩
          have HCN : Hid (Cp1 w W9 p st' T') := Lib.hid ⟨Only.fresh ((Only.of_fresh HC.out.fr).trans ho9) (fun i hi e => by have := (HC.out.r.lo i e).1; omega), hr9, HEM.out⟩
          clear hyn hoy hye ho9 hr9 hg9 hx9
          go_wp2_with fail
          go_roundw
          case rel => exact ⟨k + 1, st', T', by omega, by go_num, HCN.out⟩
          case measure => simp [intOf]; omega
        · have hkm : k = m := by omega
          subst hkm
          have hck0 : ∀ i, T i → i < wr.heap.size := fun i hi => (HC.out.r.lo i hi).2
          have hsz0 : w.heap.size ≤ wr.heap.size := HC.out.fr.size
          have HEM0 := Lib.hid HC.out.emp
          have HCP := Lib.hid (in_copyS HC.out.r)
          unfold InCopyS at HCP
          go_wp2_with fail
          with_reducible refine HCP.out.mono ?_
          clear HCP
          rintro e W5 ⟨q, Tc, rfl, hrc, hcl, hf5⟩
          have HC := Lib.hid (HC.out.fresh hf5)
          have HRC := Lib.hid hrc
          have HCL : Hid ((∀ i, Tc i → wr.heap.size ≤ i) ∧ (∀ i, T i → i < wr.heap.size) ∧ w.heap.size ≤ wr.heap.size ∧ wr.heap.size ≤ W5.heap.size) := Lib.hid ⟨hcl, fun i hi => (hck0 i hi), hsz0, hf5.size⟩
          obtain ⟨bc, hbc⟩ : ∃ bc, wr.heap.size = bc := ⟨_, rfl⟩
          rw [hbc] at HCL
          clear hrc hcl hf5 hbc hck0 hsz0
          obtain ⟨dd, hdd⟩ : ∃ dd, st.isNone = dd := ⟨_, rfl⟩
          have HDP : Hid (∀ W, RiS w W p st T → Calls Tryz.prog 14 #[.pointer (some ⟨p, 0, none⟩)] W fun e w' => e = .returned (.bool dd) ∧ W = w') := Lib.hid (fun W h => hdd ▸ in_deadS h)
          have HDQ : Hid (∀ W, RiS w W q st Tc → Calls Tryz.prog 14 #[.pointer (some ⟨q, 0, none⟩)] W fun e w' => e = .returned (.bool dd) ∧ W = w') := Lib.hid (fun W h => hdd ▸ in_deadS h)
          obtain ⟨ww, hww⟩ : ∃ ww, waitX st = ww := ⟨_, rfl⟩
          have HWP : Hid (∀ W, RiS w W p st T → Calls Tryz.prog 15 #[.pointer (some ⟨p, 0, none⟩)] W fun e w' => e = .returned (.int .i64 ww) ∧ Fresh W w') := Lib.hid (fun W h => hww ▸ in_waitS h)
          clear hdd hww
          have dne : (dd != dd) = false := by simp
          have wne : (ww != ww) = false := by simp
          go_wp2_with fail
          with_reducible refine (HDQ.out _ HRC.out).mono ?_
          rintro e W6 ⟨rfl, rfl⟩
          go_wp2_with fail
          with_reducible refine (HDP.out _ HC.out.r).mono ?_
          rintro e W6 ⟨rfl, rfl⟩
          go_wp2_with fail
          with_reducible refine (HWP.out _ HC.out.r).mono ?_
          rintro e W7 ⟨rfl, hf7⟩
          have HC := Lib.hid (HC.out.fresh hf7)
          have HRC := Lib.hid (HRC.out.fresh hf7)
          have hs7 := hf7.size
          clear hf7
          go_wp2_with fail
          with_reducible refine (HDP.out _ HC.out.r).mono ?_
          rintro e W8 ⟨rfl, rfl⟩
          have HC2 : Hid (Cp2 w W7 bc p q st T G 0 (.slice none 0 0) [] st Tc) := Lib.hid ⟨HC.out.fr, HC.out.r, HCL.out.2.1, HRC.out, HCL.out.1, OwnE.nil _ _, (fun y hy => by cases hy), ⟨HCL.out.2.2.1, by have := HCL.out.2.2.2; omega⟩, rfl, HC.out.emp, by simp⟩
          clear hs7 HC HRC
          go_upto_region 16 with fail
          go_wp2
          go_loopw [13, 79] (fun gv i wr => ∃ (k2 : Nat) (GV : Value) (ys : List EvV) (stc : RiSt) (Tc : Nat → Prop), GV = gv ∧ k2 ≤ m2 ∧ i = .int .i64 (k2 : Int) ∧ Cp2 w wr bc p q st T G k2 GV ys stc Tc) (fun _ i _ => m2 - (intOf i).toNat)
          case atStart => exact ⟨0, _, [], _, _, rfl, by omega, rfl, HC2.out⟩
          case round =>
            obtain ⟨k, GV, ys, stc, Tc, hgv, hk2, rfl, hck⟩ := hrel
            subst hgv
            have HC := Lib.hid hck
            clear hck HC2 HCL HDQ
            by_cases hlt : k < m2
            · have hlt' : (k : Int) < (m2 : Int) := by omega
              obtain ⟨z, hz⟩ : ∃ z, gxs[k]? = some z := ⟨_, List.getElem?_eq_getElem (by rw [HM2.out]; exact hlt)⟩
              have HFK := Lib.hid (HX2.out k z hz)
              have hzm := List.mem_of_getElem? hz
              have hz6 := HE2.out z hzm
              obtain ⟨n, hn⟩ : ∃ n, z.l.length = n := ⟨_, rfl⟩
              have HFB := Lib.hid (fun W (hf : Fresh w W) => fb_of (x := z) hn (HS2.out.2 z hzm) (by omega) W ((HO2.out z hzm).fresh hf))
              unfold BytesN at HFB
              obtain ⟨f, hfo⟩ : ∃ f, frOf z = f := ⟨_, rfl⟩
              have HFO : Hid (f.st ≤ 2147483647 ∧ f.pl.length ≤ 600 ∧ f.pl.length = n) := Lib.hid (by
                obtain ⟨_, _, _, h4, h5⟩ := frOf_ok (HS2.out.2 z hzm)
                rw [hfo] at h4 h5
                exact ⟨h4, by rw [h5]; omega, by rw [h5, hn]⟩)
              rw [hfo] at HFK HFB
              obtain ⟨b, o, rfl, hbw, k0, k1, k2, k3⟩ := HR2.out.at_ k z hz
              simp only [FrV.cells, List.getElem?_cons_zero, List.getElem?_cons_succ] at k0 k1 k2 k3
              have j0 := (HC.out.fr.cell (p := ⟨b, o + k * 4, none⟩) hbw).trans k0
              have j1 := (HC.out.fr.cell (p := ⟨b, o + k * 4 + 1, none⟩) hbw).trans k1
              have j2 := (HC.out.fr.cell (p := ⟨b, o + k * 4 + 2, none⟩) hbw).trans k2
              have j3 := (HC.out.fr.cell (p := ⟨b, o + k * 4 + 3, none⟩) hbw).trans k3
              clear hz hzm hfo
              obtain ⟨ty, fl, stm, YA, yc, zl⟩ := z
              simp only at j0 j1 j2 j3 hz6 hn HFB
              rw [hn] at j3 hz6
              clear k0 k1 k2 k3 hn
              go_upto_region 18 with (first | (refine wp_storeB (ds := #[.int .i64 ty, .int .i64 fl, .int .i64 stm, .slice YA n yc]) rfl (.tmp 15) (.tmp 82) _ rfl rfl rfl (Blk.new _ _ _) (by kernel_rfl) rfl (by simp [Value.oneCell']) ?_) | fail)
              intro W5 hb5 ho5
              have hf5 : Fresh wr W5 := Only.fresh ((Only.of_fresh (Fresh.alloc _ _)).trans ho5) (fun i hi e => by omega)
              have HB5 := Lib.hid hb5
              have HC := Lib.hid (HC.out.fresh hf5)
              obtain ⟨bx, hbx⟩ : ∃ b, wr.heap.size = b := ⟨_, rfl⟩
              rw [hbx] at HB5 ⊢
              clear hb5 ho5 hf5 hbx j0 j1 j2 j3 hbw
              go_wp2_with (first | (refine wp_loadB rfl (.tmp 15) _ rfl rfl HB5.out (by kernel_rfl) (fun w => by simp [isAgg, go_sem]) ?_) | fail)
              with_reducible refine (HFB.out _ HC.out.fr).mono ?_
              rintro e W6 ⟨BA, bcp, rfl, hbc, hbm, hob, hf6⟩
              have HC := Lib.hid (HC.out.fresh hf6)
              have HOB := Lib.hid hob.bytes.1
              clear hob hf6 HB5 HFB hbc hbm
              have hflen : (frB2 f.x f.y f.st f.pl).length = 9 + n := by rw [frB2_length, HFO.out.2.2]
              obtain ⟨⟨ev, co', st'⟩, hfx⟩ : ∃ q, feedX stc (frB2 f.x f.y f.st f.pl) = q := ⟨_, rfl⟩
              obtain ⟨cb', hcb'⟩ : ∃ cb', decide (co' ≠ 0) = cb' := ⟨_, rfl⟩
              have HFX := Lib.hid hfx
              have HFD := Lib.hid (in_feedS w W6 q stc Tc BA (9 + n) bcp (frB2 f.x f.y f.st f.pl) HC.out.c hflen HOB.out (by omega) ev co' cb' st' hfx hcb')
              unfold InFeedS at HFD
              clear hfx hcb' hflen
              go_wp2_with fail
              with_reducible refine HFD.out.mono ?_
              clear HFD
              rintro e W9 ⟨vs, YA2, yn, yc2, T', rfl, hyn, hoy, hye, ho9, hr9, hg9, hx9⟩
              have HYS := Lib.hid hoy
              have HO9 := Lib.hid ho9
              have HR9 := Lib.hid hr9
              have HG9 := Lib.hid hg9
              have HX9 := Lib.hid hx9
              have HYE := Lib.hid hye
              have HYN := Lib.hid hyn
              clear hoy ho9 hr9 hg9 hx9 hye hyn HOB
              go_wp2_with (first | (refine wp_storeB (ds := #[.int .i64 co', .bool cb']) rfl (.tmp 19) (.tmp 93) _ rfl rfl rfl (Blk.new _ _ _) (by kernel_rfl) rfl (by simp [Value.oneCell']) ?_) | fail)
              intro W10 hb10 ho10
              have hf10 : Fresh W9 W10 := Only.fresh ((Only.of_fresh (Fresh.alloc _ _)).trans ho10) (fun i hi e => by omega)
              obtain ⟨A11, c11, W11, hap11, hck11⟩ := HC.out.feed f HFK.out HFX.out HFO.out.1 HFO.out.2.1 HYS.out HYE.out HYN.out HO9.out HR9.out HG9.out HX9.out hf10 ys.length (ys.length + yn) rfl rfl (by omega)
              have HCN := Lib.hid hck11
              clear hb10 ho10 hf10 hck11
              go_wp2_with (first | (at_builtin; with_reducible refine wp_app rfl (.tmp 94) (.tmp 95) _ rfl hap11 rfl rfl rfl ?_) | fail)
              clear hap11
              go_roundw
              case rel => exact ⟨k + 1, _, ys ++ vs, st', T', rfl, by omega, by go_num, HCN.out⟩
              case measure => simp [intOf]; omega
            · have hkm2 : k = m2 := by omega
              subst hkm2
              go_wp2_with fail
              with_reducible refine (HWP.out _ HC.out.r).mono ?_
              rintro e W7 ⟨rfl, hf7⟩
              have HC := Lib.hid (HC.out.fresh hf7)
              clear hf7
              go_wp2_with fail
              with_reducible refine (HDP.out _ HC.out.r).mono ?_
              rintro e W8 ⟨rfl, rfl⟩
              clear HWP HDP
              have HGT : Hid (G.take k = G) := Lib.hid (List.take_of_length_le (by rw [HGL.out]; exact Nat.le_refl _))
              have HRUN : Hid (runX st G = (ys.map EvV.e, stc)) := Lib.hid (by
                have := HC.out.run
                rwa [HGT.out] at this)
              obtain ⟨GA, gc, hge⟩ := HC.out.got.slice
              subst hge
              have HLM : Hid (∀ e ∈ ys.map EvV.e, e.lim) := Lib.hid (by
                have key : ∀ (F : List Fr) (s : RiSt), ∀ e ∈ (runX s F).1, e.lim := by
                  intro F
                  induction F with
                  | nil => intro s e he; cases he
                  | cons f r ih =>
                    intro s e he
                    simp only [runX] at he
                    rcases List.mem_append.1 he with he | he
                    · exact feedX_lim s _ e he
                    · exact ih _ e he
                have := key G st
                rw [HRUN.out] at this
                exact this)
              have HEMC := Lib.hid HC.out.emp
              obtain ⟨yn0, hyn0⟩ : ∃ n, ys.length = n := ⟨_, rfl⟩
              have HYL := Lib.hid hyn0
              have hy60 : yn0 ≤ 60 := by rw [← hyn0]; have := HC.out.cnt; omega
              have HC3 : Hid (Cp3 w W7 bc W7.heap.size p q st G 0 (.slice GA ys.length gc) ys stc Tc 0 [] st T) := Lib.hid ⟨HC.out.fr, HC.out.r, fun i hi => .inl (HC.out.tl i hi), HC.out.c, fun i hi => ⟨HC.out.cl i hi, (HC.out.c.lo i hi).2⟩, HC.out.got, fun y hy => ((HC.out.got.2.1 y hy).low.or (HC.out.got.2.1 y hy).lt), ⟨HC.out.lo.1, Nat.le_refl _⟩, rfl, rfl, HEM0.out⟩
              obtain ⟨b1, hb1⟩ : ∃ b1, W7.heap.size = b1 := ⟨_, rfl⟩
              rw [hb1, hyn0] at HC3
              rw [hyn0]
              clear hb1 hyn0 HC
              go_upto_region 26 with fail
              go_wp2
              go_loopw [20, 110] (fun kv i wr => ∃ (kq K : Nat) (evs : List Ev) (str : RiSt) (Tr : Nat → Prop), kq ≤ k ∧ i = .int .i64 (kq : Int) ∧ kv = .int .i64 (K : Int) ∧ Cp3 w wr bc b1 p q st G kq (.slice GA yn0 gc) ys stc Tc K evs str Tr) (fun _ i _ => k - (intOf i).toNat)
              case atStart => exact ⟨0, 0, [], _, _, by omega, rfl, rfl, HC3.out⟩
              case round =>
                obtain ⟨kq, K, evs, str, Tr, hkq, rfl, rfl, hck⟩ := hrel
                have HC := Lib.hid hck
                clear hck HC3
                have HPRX : Hid (∀ F2 F3, G = F2 ++ F3 → ys.map EvV.e = (runX st F2).1 ++ (runX (runX st F2).2 F3).1) := Lib.hid (fun F2 F3 e => by
                  have h1 := HRUN.out
                  rw [e, runX_append] at h1
                  exact (congrArg Prod.fst h1).symm)
                have hKy : K ≤ yn0 := by
                  have h1 := HPRX.out (G.take kq) (G.drop kq) (List.take_append_drop kq G).symm
                  rw [HC.out.run] at h1
                  have h2 := congrArg List.length h1
                  simp only [List.length_append, List.length_map] at h2
                  have := HC.out.len
                  have := HYL.out
                  omega
                by_cases hlt : kq < k
                · have hlt' : (kq : Int) < (k : Int) := by omega
                  obtain ⟨z, hz⟩ : ∃ z, gxs[kq]? = some z := ⟨_, List.getElem?_eq_getElem (by rw [HM2.out]; exact hlt)⟩
                  have HFK := Lib.hid (HX2.out kq z hz)
                  have hzm := List.mem_of_getElem? hz
                  have hz6 := HE2.out z hzm
                  obtain ⟨n, hn⟩ : ∃ n, z.l.length = n := ⟨_, rfl⟩
                  have HFB := Lib.hid (fun W (hf : Fresh w W) => fb_of (x := z) hn (HS2.out.2 z hzm) (by omega) W ((HO2.out z hzm).fresh hf))
                  unfold BytesN at HFB
                  obtain ⟨f, hfo⟩ : ∃ f, frOf z = f := ⟨_, rfl⟩
                  have HFO : Hid (f.st ≤ 2147483647 ∧ f.pl.length ≤ 600 ∧ f.pl.length = n) := Lib.hid (by
                    obtain ⟨_, _, _, h4, h5⟩ := frOf_ok (HS2.out.2 z hzm)
                    rw [hfo] at h4 h5
                    exact ⟨h4, by rw [h5]; omega, by rw [h5, hn]⟩)
                  rw [hfo] at HFK HFB
                  obtain ⟨b, o, rfl, hbw, k0, k1, k2, k3⟩ := HR2.out.at_ kq z hz
                  simp only [FrV.cells, List.getElem?_cons_zero, List.getElem?_cons_succ] at k0 k1 k2 k3
                  have j0 := (HC.out.fr.cell (p := ⟨b, o + kq * 4, none⟩) hbw).trans k0
                  have j1 := (HC.out.fr.cell (p := ⟨b, o + kq * 4 + 1, none⟩) hbw).trans k1
                  have j2 := (HC.out.fr.cell (p := ⟨b, o + kq * 4 + 2, none⟩) hbw).trans k2
                  have j3 := (HC.out.fr.cell (p := ⟨b, o + kq * 4 + 3, none⟩) hbw).trans k3
                  clear hz hzm hfo
                  obtain ⟨ty, fl, stm, YA, yc, zl⟩ := z
                  simp only at j0 j1 j2 j3 hz6 hn HFB
                  rw [hn] at j3 hz6
                  clear k0 k1 k2 k3 hn
                  go_upto_region 28 with (first | (refine wp_storeB (ds := #[.int .i64 ty, .int .i64 fl, .int .i64 stm, .slice YA n yc]) rfl (.tmp 22) (.tmp 113) _ rfl rfl rfl (Blk.new _ _ _) (by kernel_rfl) rfl (by simp [Value.oneCell']) ?_) | fail)
                  intro W5 hb5 ho5
                  have hf5 : Fresh wr W5 := Only.fresh ((Only.of_fresh (Fresh.alloc _ _)).trans ho5) (fun i hi e => by omega)
                  have HB5 := Lib.hid hb5
                  have HC := Lib.hid (HC.out.fresh hf5)
                  obtain ⟨bx, hbx⟩ : ∃ b, wr.heap.size = b := ⟨_, rfl⟩
                  rw [hbx] at HB5 ⊢
                  clear hb5 ho5 hf5 hbx j0 j1 j2 j3 hbw
                  go_wp2_with (first | (refine wp_loadB rfl (.tmp 22) _ rfl rfl HB5.out (by kernel_rfl) (fun w => by simp [isAgg, go_sem]) ?_) | fail)
                  with_reducible refine (HFB.out _ HC.out.fr).mono ?_
                  rintro e W6 ⟨BA, bcp, rfl, hbc, hbm, hob, hf6⟩
                  have HC := Lib.hid (HC.out.fresh hf6)
                  have HOB := Lib.hid hob.bytes.1
                  clear hob hf6 HB5 HFB hbc hbm
                  have hflen : (frB2 f.x f.y f.st f.pl).length = 9 + n := by rw [frB2_length, HFO.out.2.2]
                  obtain ⟨⟨ev, co', st'⟩, hfx⟩ : ∃ q, feedX str (frB2 f.x f.y f.st f.pl) = q := ⟨_, rfl⟩
                  obtain ⟨cb', hcb'⟩ : ∃ cb', decide (co' ≠ 0) = cb' := ⟨_, rfl⟩
                  have HFX := Lib.hid hfx
                  have HEVL : Hid (ev.length ≤ 1) := Lib.hid (by
                    have := (HC.out.emp.feed HFO.out.1 HFO.out.2.1).2
                    rw [hfx] at this
                    exact this)
                  have HEVY : Hid (∀ i e, ev[i]? = some e → (ys.map EvV.e)[K + i]? = some e) := Lib.hid (fun i e he => by
                    obtain ⟨hk', hfe⟩ := List.getElem?_eq_some_iff.1 HFK.out
                    have h1 := HPRX.out (G.take kq) (f :: G.drop (kq + 1)) (by rw [← hfe, List.getElem_cons_drop, List.take_append_drop])
                    rw [HC.out.run] at h1
                    simp only [runX, HFX.out] at h1
                    rw [h1, List.getElem?_append_right (by rw [HC.out.len]; omega), HC.out.len, Nat.add_sub_cancel_left, List.getElem?_append_left (List.getElem?_eq_some_iff.1 he).1]
                    exact he)
                  have HFD := Lib.hid (in_feedS w W6 p str Tr BA (9 + n) bcp (frB2 f.x f.y f.st f.pl) HC.out.r hflen HOB.out (by omega) ev co' cb' st' hfx hcb')
                  unfold InFeedS at HFD
                  clear hfx hcb' hflen
                  go_wp2_with fail
                  with_reducible refine HFD.out.mono ?_
                  clear HFD
                  rintro e W9 ⟨vs, YA2, yn, yc2, T', rfl, hyn, hoy, hye, ho9, hr9, hg9, hx9⟩
                  have hevn : ev.length = yn := by rw [← hye, List.length_map, hyn]
                  have HCN := Lib.hid (HC.out.feed f HFK.out HFX.out HFO.out.1 HFO.out.2.1 ho9 hr9 hg9 yn hevn)
                  have HVS := Lib.hid hoy
                  have HYN := Lib.hid hyn
                  have hyl : yn ≤ 1 := by rw [← hevn]; exact HEVL.out
                  have HCMP : Hid (∀ i x, vs[i]? = some x → ∃ y, ys[K + i]? = some y ∧ y.e = x.e) := Lib.hid (fun i x hx => by
                    have h1 := HEVY.out i x.e (by rw [← hye, List.getElem?_map, hx]; rfl)
                    rw [List.getElem?_map] at h1
                    cases hy : ys[K + i]? with
                    | none => rw [hy] at h1; cases h1
                    | some y =>
                      rw [hy] at h1
                      exact ⟨y, rfl, by simpa using h1⟩)
                  have hKn : K + yn ≤ yn0 := by
                    by_cases h0 : yn = 0
                    · omega
                    · obtain ⟨x, hx⟩ : ∃ x, vs[yn - 1]? = some x := ⟨_, List.getElem?_eq_getElem (by rw [hyn]; omega)⟩
                      obtain ⟨y, hy, _⟩ := HCMP.out _ _ hx
                      have := (List.getElem?_eq_some_iff.1 hy).1
                      have := HYL.out
                      omega
                  clear hyn hoy hye ho9 hr9 hg9 hx9 hevn HC HFX HEVY HEVL HOB HFK HFO
                  go_wp2_with (first | (refine wp_storeB (ds := #[.int .i64 co', .bool cb']) rfl (.tmp 26) (.tmp 124) _ rfl rfl rfl (Blk.new _ _ _) (by kernel_rfl) rfl (by simp [Value.oneCell']) ?_) | fail)
                  intro W10 hb10 ho10
                  have hf10 : Fresh W9 W10 := Only.fresh ((Only.of_fresh (Fresh.alloc _ _)).trans ho10) (fun i hi e => by omega)
                  have HCN := Lib.hid (HCN.out.fresh hf10)
                  have HVS := Lib.hid (HVS.out.fresh hf10)
                  clear hb10 ho10 hf10
                  go_upto_region 31 with fail
                  go_wp2
                  go_loopw [20, 127] (fun kv i w4 => ∃ i4 : Nat, i4 ≤ yn ∧ i = .int .i64 (i4 : Int) ∧ kv = .int .i64 ((K + i4 : Nat) : Int) ∧ Fresh W10 w4) (fun _ i _ => yn - (intOf i).toNat)
                  case atStart => exact ⟨0, by omega, rfl, rfl, Fresh.refl _⟩
                  case round =>
                    obtain ⟨i4, hi4, rfl, rfl, hf4⟩ := hrel
                    have HF4 := Lib.hid hf4
                    clear hf4
                    by_cases hlt4 : i4 < yn
                    · have hlt4' : (i4 : Int) < (yn : Int) := by omega
                      obtain ⟨x, hx⟩ : ∃ x, vs[i4]? = some x := ⟨_, List.getElem?_eq_getElem (by rw [HYN.out]; exact hlt4)⟩
                      obtain ⟨y, hy, hxy⟩ := HCMP.out i4 x hx
                      have hlm : y.e.lim := HLM.out _ (List.mem_map.2 ⟨y, List.mem_of_getElem? hy, rfl⟩)
                      have HEQ0 := Lib.hid (fun W (hf : Fresh W10 W) => in_equal y x W ((HCN.out.got.2.1 y (List.mem_of_getElem? hy)).ok.fresh hf) ((HVS.out.2.1 x (List.mem_of_getElem? hx)).ok.fresh hf) hxy (by have := hlm.1; omega) (by have := hlm.2; omega))
                      obtain ⟨ga, rfl, hga, _, hca⟩ := HCN.out.got.cells (K + i4) y hy
                      obtain ⟨gb, rfl, hgb, _, hcb⟩ := HVS.out.cells i4 x hx
                      obtain ⟨⟨ek, est, exs, el, eps, een, en0, eco⟩, LA, lc, TA, tc, PA, pc⟩ := y
                      obtain ⟨ey, LB, ld, TB, td, PB, pd⟩ := x
                      simp only at hxy
                      subst hxy
                      have HEQ : Hid (∀ W, Fresh W10 W → Calls Tryz.prog 13 #[.agg #[.int .i64 ek, .int .i64 est, .slice LA exs.length lc, .slice TA el.length tc, .slice PA eps.length pc, .bool een, .int .i64 en0, .int .i64 eco], .agg #[.int .i64 ek, .int .i64 est, .slice LB exs.length ld, .slice TB el.length td, .slice PB eps.length pd, .bool een, .int .i64 en0, .int .i64 eco]] W fun e w' => e = .returned (.bool true) ∧ Fresh W w') := HEQ0
                      have HCA : Hid (∀ w', Fresh W10 w' → ∀ j, j < 8 → w'.cell? ⟨ga, (K + i4) * 8 + j, none⟩ = (#[.int .i64 ek, .int .i64 est, .slice LA exs.length lc, .slice TA el.length tc, .slice PA eps.length pc, .bool een, .int .i64 en0, .int .i64 eco] : Array Value)[j]?) := Lib.hid (fun w' hf j hj => by
                        have := hca j hj
                        rw [hf.cell (p := ⟨ga, (K + i4) * 8 + j, none⟩) hga, this]
                        simp [evCells, EvV.arr])
                      have hcell : ∀ j, j < 8 → wr.cell? ⟨gb, i4 * 8 + j, none⟩ = (#[.int .i64 ek, .int .i64 est, .slice LB exs.length ld, .slice TB el.length td, .slice PB eps.length pd, .bool een, .int .i64 en0, .int .i64 eco] : Array Value)[j]? := fun j hj => by
                        have := hcb j hj
                        rw [HF4.out.cell (p := ⟨gb, i4 * 8 + j, none⟩) hgb, this]
                        simp [evCells, EvV.arr]
                      have q0 := hcell 0 (by omega)
                      have q1 := hcell 1 (by omega)
                      have q2 := hcell 2 (by omega)
                      have q3 := hcell 3 (by omega)
                      have q4 := hcell 4 (by omega)
                      have q5 := hcell 5 (by omega)
                      have q6 := hcell 6 (by omega)
                      have q7 := hcell 7 (by omega)
                      simp only [List.getElem?_toArray, List.getElem?_cons_zero, List.getElem?_cons_succ, Nat.add_zero] at q0 q1 q2 q3 q4 q5 q6 q7
                      clear hx hy hlm hca hcb hga hgb HEQ0 hcell
                      go_upto_region 33 with (first | (refine wp_storeB (ds := #[.int .i64 ek, .int .i64 est, .slice LB exs.length ld, .slice TB el.length td, .slice PB eps.length pd, .bool een, .int .i64 en0, .int .i64 eco]) rfl (.tmp 28) (.tmp 130) _ rfl rfl rfl (Blk.new _ _ _) (by kernel_rfl) rfl (by simp [Value.oneCell']) ?_) | fail)
                      intro W12 hb12 ho12
                      have hf12 : Fresh wr W12 := Only.fresh ((Only.of_fresh (Fresh.alloc _ _)).trans ho12) (fun i hi e => by omega)
                      have HF12 := Lib.hid (HF4.out.trans hf12)
                      obtain ⟨b28, hb28⟩ : ∃ b, wr.heap.size = b := ⟨_, rfl⟩
                      rw [hb28] at hb12 ⊢
                      have HSK : Hid (∀ w', Fresh W12 w' → SCo w' ga ((K + i4) * 8) b28 #[.int .i64 ek, .int .i64 est, .slice LA exs.length lc, .slice TA el.length tc, .slice PA eps.length pc, .bool een, .int .i64 en0, .int .i64 eco] #[.int .i64 ek, .int .i64 est, .slice LB exs.length ld, .slice TB el.length td, .slice PB eps.length pd, .bool een, .int .i64 en0, .int .i64 eco]) := Lib.hid (fun w' hf => ⟨HCA.out w' (HF12.out.trans hf), hb12.fresh hf⟩)
                      clear q0 q1 q2 q3 q4 q5 q6 q7 hb12 ho12 hf12 hb28
                      obtain ⟨ki, hki⟩ : ∃ ki, K + i4 = ki := ⟨_, rfl⟩
                      have hki2 : ki < yn0 := by omega
                      have hkn : ¬ (yn0 : Int) ≤ (ki : Int) := by omega
                      have hkn2 : (ki : Int) < (yn0 : Int) := by omega
                      have HKI := Lib.hid hki
                      rw [hki] at HSK
                      have hcst : (K : Int) + (i4 : Int) = (ki : Int) := by omega
                      first | rw [hki] | rw [hcst]
                      clear hcst
                      clear hki
                      go_upto_region 33 with fail
                      refine wp_region_held_drew (S := (fun w' => SCo w' ga (ki * 8) b28 #[.int .i64 ek, .int .i64 est, .slice LA exs.length lc, .slice TA el.length tc, .slice PA eps.length pc, .bool een, .int .i64 en0, .int .i64 eco] #[.int .i64 ek, .int .i64 est, .slice LB exs.length ld, .slice TB el.length td, .slice PB eps.length pd, .bool een, .int .i64 en0, .int .i64 eco])) (by kernel_rfl) (HSK.out _ (Fresh.drew _)) (fun hHeld => ?_)
                      refine wpAnyH_take (i := 0) (v := ?_) rfl (by kernel_rfl) (by kernel_rfl) (by kernel_rfl) (fun _ _ _ h => h) (Or.inl ⟨by rfl, ?_⟩) (by assumption) ?_; rotate_left; focus (intro w hSw; (try dsimp only at hSw); go_simp; (try with_reducible rfl); done)
                      (try simp only [Act.put, List.getElem_toArray, List.getElem_cons_zero, List.getElem_cons_succ, List.setIfInBounds_toArray, List.set_cons_zero, List.set_cons_succ])
                      refine wpAnyH_take (i := 1) (v := ?_) rfl (by kernel_rfl) (by kernel_rfl) (by kernel_rfl) (fun _ _ _ h => h) (Or.inl ⟨by rfl, ?_⟩) (by assumption) ?_; rotate_left; focus (intro w hSw; (try dsimp only at hSw); go_simp; (try with_reducible rfl); done)
                      (try simp only [Act.put, List.getElem_toArray, List.getElem_cons_zero, List.getElem_cons_succ, List.setIfInBounds_toArray, List.set_cons_zero, List.set_cons_succ])
                      refine wpAnyH_take (i := 2) (v := ?_) rfl (by kernel_rfl) (by kernel_rfl) (by kernel_rfl) (fun _ _ _ h => h) (Or.inl ⟨by rfl, ?_⟩) (by assumption) ?_; rotate_left; focus (intro w hSw; (try dsimp only at hSw); go_simp; (try with_reducible rfl); done)
                      (try simp only [Act.put, List.getElem_toArray, List.getElem_cons_zero, List.getElem_cons_succ, List.setIfInBounds_toArray, List.set_cons_zero, List.set_cons_succ])
                      refine wpAnyH_take (i := 3) (v := ?_) rfl (by kernel_rfl) (by kernel_rfl) (by kernel_rfl) (fun _ _ _ h => h) (Or.inl ⟨by rfl, ?_⟩) (by assumption) ?_; rotate_left; focus (intro w hSw; (try dsimp only at hSw); go_simp; (try with_reducible rfl); done)
                      (try simp only [Act.put, List.getElem_toArray, List.getElem_cons_zero, List.getElem_cons_succ, List.setIfInBounds_toArray, List.set_cons_zero, List.set_cons_succ])
                      refine wpAnyH_take (i := 4) (v := ?_) rfl (by kernel_rfl) (by kernel_rfl) (by kernel_rfl) (fun _ _ _ h => h) (Or.inl ⟨by rfl, ?_⟩) (by assumption) ?_; rotate_left; focus (intro w hSw; (try dsimp only at hSw); go_simp; (try with_reducible rfl); done)
                      (try simp only [Act.put, List.getElem_toArray, List.getElem_cons_zero, List.getElem_cons_succ, List.setIfInBounds_toArray, List.set_cons_zero, List.set_cons_succ])
                      refine wpAnyH_take (i := 5) (v := ?_) rfl (by kernel_rfl) (by kernel_rfl) (by kernel_rfl) (fun _ _ _ h => h) (Or.inl ⟨by rfl, ?_⟩) (by assumption) ?_; rotate_left; focus (intro w hSw; (try dsimp only at hSw); go_simp; (try with_reducible rfl); done)
                      (try simp only [Act.put, List.getElem_toArray, List.getElem_cons_zero, List.getElem_cons_succ, List.setIfInBounds_toArray, List.set_cons_zero, List.set_cons_succ])
                      refine wpAnyH_take (i := 6) (v := ?_) rfl (by kernel_rfl) (by kernel_rfl) (by kernel_rfl) (fun _ _ _ h => h) (Or.inl ⟨by rfl, ?_⟩) (by assumption) ?_; rotate_left; focus (intro w hSw; (try dsimp only at hSw); go_simp; (try with_reducible rfl); done)
                      (try simp only [Act.put, List.getElem_toArray, List.getElem_cons_zero, List.getElem_cons_succ, List.setIfInBounds_toArray, List.set_cons_zero, List.set_cons_succ])
                      refine wpAnyH_take (i := 7) (v := ?_) rfl (by kernel_rfl) (by kernel_rfl) (by kernel_rfl) (fun _ _ _ h => h) (Or.inl ⟨by rfl, ?_⟩) (by assumption) ?_; rotate_left; focus (intro w hSw; (try dsimp only at hSw); go_simp; (try with_reducible rfl); done)
                      (try simp only [Act.put, List.getElem_toArray, List.getElem_cons_zero, List.getElem_cons_succ, List.setIfInBounds_toArray, List.set_cons_zero, List.set_cons_succ])
                      refine wpAnyH_take (i := 8) (v := .agg #[.int .i64 ek, .int .i64 est, .slice LA exs.length lc, .slice TA el.length tc, .slice PA eps.length pc, .bool een, .int .i64 en0, .int .i64 eco]) rfl (by kernel_rfl) (by kernel_rfl) (by kernel_rfl) (fun _ _ _ h => h) (Or.inl ⟨by rfl, ?_⟩) (by assumption) ?_; focus (intro w hSw; exact run_loadP rfl rfl hSw.1 (by kernel_rfl) (fun w => by simp [isAgg, go_sem]))
                      (try simp only [Act.put, List.getElem_toArray, List.getElem_cons_zero, List.getElem_cons_succ, List.setIfInBounds_toArray, List.set_cons_zero, List.set_cons_succ])
                      refine wpAnyH_take (i := 9) (v := .agg #[.int .i64 ek, .int .i64 est, .slice LB exs.length ld, .slice TB el.length td, .slice PB eps.length pd, .bool een, .int .i64 en0, .int .i64 eco]) rfl (by kernel_rfl) (by kernel_rfl) (by kernel_rfl) (fun _ _ _ h => h) (Or.inl ⟨by rfl, ?_⟩) (by assumption) ?_; focus (intro w hSw; exact run_loadOp rfl rfl hSw.2 (by kernel_rfl) (fun w => by simp [isAgg, go_sem]))
                      (try simp only [Act.put, List.getElem_toArray, List.getElem_cons_zero, List.getElem_cons_succ, List.setIfInBounds_toArray, List.set_cons_zero, List.set_cons_succ])
                      refine wpAnyH_ready (rs := [10]) (by kernel_rfl) (by simp) ?_
                      refine AllReadyH.cons rfl (fun K hK => ?_) AllReadyH.nil
                      go_simp
                      go_at_call 13
                      with_reducible refine (HEQ.out _ (HF12.out.trans (Fresh.drew _))).mono ?_
                      rintro e wa ⟨rfl, hwa⟩
                      have hgw : Fresh W12 wa := (Fresh.drew _).trans hwa
                      refine hK.out _ _ (HSK.out _ hgw) (fun hHeld => ?_)
                      clear hK K
                      (try simp only [Act.put, List.getElem_toArray, List.getElem_cons_zero, List.getElem_cons_succ, List.setIfInBounds_toArray, List.set_cons_zero, List.set_cons_succ])
                      refine wpAnyH_take (i := 11) (v := ?_) rfl (by kernel_rfl) (by kernel_rfl) (by kernel_rfl) (fun _ _ _ h => h) (Or.inl ⟨by rfl, ?_⟩) (by assumption) ?_; rotate_left; focus (intro w hSw; (try dsimp only at hSw); go_simp; (try with_reducible rfl); done)
                      (try simp only [Act.put, List.getElem_toArray, List.getElem_cons_zero, List.getElem_cons_succ, List.setIfInBounds_toArray, List.set_cons_zero, List.set_cons_succ])
                      refine wpAnyH_take (i := 12) (v := ?_) rfl (by kernel_rfl) (by kernel_rfl) (by kernel_rfl) (fun _ _ _ h => h) (Or.inl ⟨by rfl, ?_⟩) (by assumption) ?_; rotate_left; focus (intro w hSw; (try dsimp only at hSw); go_simp; (try with_reducible rfl); done)
                      (try simp only [Act.put, List.getElem_toArray, List.getElem_cons_zero, List.getElem_cons_succ, List.setIfInBounds_toArray, List.set_cons_zero, List.set_cons_succ])
                      refine wpAnyH_done (by kernel_rfl) ?_ _
                      have HFW := Lib.hid (HF12.out.trans hgw)
                      clear hHeld hwa hgw
                      go_wp2_with fail
                      go_roundw
                      case rel => exact ⟨i4 + 1, by omega, by go_num, by have := HKI.out; first | go_num | (congr 1; omega), HFW.out⟩
                      case measure => simp [intOf]; omega
                    · have hin : i4 = yn := by omega
                      subst hin
                      have HCN := Lib.hid (HCN.out.fresh HF4.out)
                      go_wp2_with fail
                      go_roundw
                      case rel => exact ⟨kq + 1, K + i4, _, st', T', by omega, by go_num, by first | rfl | go_num, HCN.out⟩
                      case measure => simp [intOf]; omega
                · have hkk : kq = k := by omega
                  have HEND : Hid (evs = ys.map EvV.e ∧ str = stc) := Lib.hid (by
                    have h1 := HC.out.run
                    rw [hkk, HGT.out, HRUN.out] at h1
                    simp only [Prod.mk.injEq] at h1
                    exact ⟨h1.1.symm, h1.2.symm⟩)
                  have hkk2 : K = yn0 := by
                    have h1 := HC.out.len
                    rw [HEND.out.1, List.length_map, HYL.out] at h1
                    exact h1.symm
                  have hstr := HEND.out.2
                  subst hkk2 hstr
                  obtain ⟨d2, hd2⟩ : ∃ dd, str.isNone = dd := ⟨_, rfl⟩
                  have HDP : Hid (∀ W, RiS w W p str Tr → Calls Tryz.prog 14 #[.pointer (some ⟨p, 0, none⟩)] W fun e w' => e = .returned (.bool d2) ∧ W = w') := Lib.hid (fun W h => hd2 ▸ in_deadS h)
                  have HDQ : Hid (∀ W, RiS w W q str Tc → Calls Tryz.prog 14 #[.pointer (some ⟨q, 0, none⟩)] W fun e w' => e = .returned (.bool d2) ∧ W = w') := Lib.hid (fun W h => hd2 ▸ in_deadS h)
                  obtain ⟨w2, hw2⟩ : ∃ ww, waitX str = ww := ⟨_, rfl⟩
                  have HWP : Hid (∀ W, RiS w W p str Tr → Calls Tryz.prog 15 #[.pointer (some ⟨p, 0, none⟩)] W fun e w' => e = .returned (.int .i64 w2) ∧ Fresh W w') := Lib.hid (fun W h => hw2 ▸ in_waitS h)
                  have HWQ : Hid (∀ W, RiS w W q str Tc → Calls Tryz.prog 15 #[.pointer (some ⟨q, 0, none⟩)] W fun e w' => e = .returned (.int .i64 w2) ∧ Fresh W w') := Lib.hid (fun W h => hw2 ▸ in_waitS h)
                  clear hd2 hw2 HRUN HEND
                  go_wp2_with fail
                  with_reducible refine (HDP.out _ HC.out.r).mono ?_
                  rintro e W8 ⟨rfl, rfl⟩
                  go_wp2_with fail
                  with_reducible refine (HDQ.out _ HC.out.c).mono ?_
                  rintro e W8 ⟨rfl, rfl⟩
                  go_wp2_with fail
                  with_reducible refine (HWP.out _ HC.out.r).mono ?_
                  rintro e W8 ⟨rfl, hf8⟩
                  have HC := Lib.hid (HC.out.fresh hf8)
                  clear hf8
                  go_wp2_with fail
                  with_reducible refine (HWQ.out _ HC.out.c).mono ?_
                  rintro e W9 ⟨rfl, hf9⟩
                  have HC := Lib.hid (HC.out.fresh hf9)
                  clear hf9
                  go_wp2_with fail
                  with_reducible refine (HW.out _).mono ?_
                  rintro e W11 ⟨rfl, hf11⟩
                  go_wp2
                  go_ret
                  exact ⟨rfl, HC.out.fr.trans hf11⟩
end Go.Proofs.YtginhebfjbhmnaaGreat

