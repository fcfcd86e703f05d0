/-
  Texts laid together: FrameA Reasm.
-/
import Derived.Test.YtginhebfjbhmnaaGreatG12
import Derived.Test.YtginhebfjbhmnaaGreatG01
/-
  Contracts of package frame: All.
-/
namespace Go.Proofs.YtginhebfjbhmnaaGreat
set_option maxRecDepth 100000
set_option linter.unusedVariables false
open Go.RowKit

/-- A frame that was read. -/
structure Fr where
  (x y : UInt8) (st : Nat) (pl : List UInt8)
/-- How it lies in memory: its payload at A. -/
def cellsF (p : Fr × Option Addr) : List Value := [.int .i64 (p.1.x.toNat : Int), .int .i64 (p.1.y.toNat : Int), .int .i64 (p.1.st : Int), .slice p.2 p.1.pl.length p.1.pl.length]
/-- The frame at the beginning; how long it is. -/
def headF (l : List UInt8) : Fr := ⟨l.getD 3 0, l.getD 4 0, numL ((l.drop 5).take 4) % 2147483648, (l.take (9 + numL (l.take 3))).drop 9⟩
def lenF (l : List UInt8) : Nat := 9 + numL (l.take 3)
/-- All frames, and what is left; none: one is too long. -/
def allF (most : Int) : Nat → List UInt8 → Option (List Fr × List UInt8)
  | 0, l => some ([], l)
  | n + 1, l => if parseK l most = 16 then some ([], l) else if parseK l most = 0 then (allF most n (l.drop (lenF l))).map fun p => (headF l :: p.1, p.2) else none
theorem parseK_cases (l : List UInt8) (most : Int) : parseK l most = 16 ∨ parseK l most = 106 ∨ parseK l most = 0 := by
  unfold parseK
  split
  · exact .inl rfl
  · split
    · exact .inr (.inl rfl)
    · split
      · exact .inl rfl
      · exact .inr (.inr rfl)
theorem parseK_long {l : List UInt8} {most : Int} (h : parseK l most ≠ 16) : 9 ≤ l.length := by
  unfold parseK at h
  split at h
  · exact absurd rfl h
  · omega
theorem headF_st (l : List UInt8) : (headF l).st ≤ 2147483647 := by
  show numL ((l.drop 5).take 4) % 2147483648 ≤ 2147483647
  have := Nat.mod_lt (numL ((l.drop 5).take 4)) (show 0 < 2147483648 by omega)
  omega
theorem headF_pl {l : List UInt8} {most : Int} (h : parseK l most = 0) : (headF l).pl.length = numL (l.take 3) ∧ (headF l).pl.length ≤ 16777215 ∧ (headF l).pl.length + 9 ≤ l.length := by
  obtain ⟨h1, h2, h3⟩ := parseK_ok h
  have := numL_take3 l
  have e : (headF l).pl.length = numL (l.take 3) := by simp [headF]; omega
  omega

theorem allF_rest {most : Int} : ∀ (n : Nat) (l : List UInt8), l.length ≤ n → ∀ P, allF most n l = some P → parseK P.2 most = 16 := by
  intro n
  induction n with
  | zero =>
    intro l hl P h
    have : l = [] := List.eq_nil_of_length_eq_zero (by omega)
    subst this
    simp only [allF, Option.some.injEq] at h
    subst h
    rfl
  | succ n ih =>
    intro l hl P h
    unfold allF at h
    by_cases h16 : parseK l most = 16
    · rw [if_pos h16] at h
      simp only [Option.some.injEq] at h
      subst h
      exact h16
    · rw [if_neg h16] at h
      by_cases h0 : parseK l most = 0
      · rw [if_pos h0] at h
        have h9 := parseK_long h16
        cases hq : allF most n (l.drop (lenF l)) with
        | none => rw [hq] at h; simp at h
        | some p =>
          rw [hq] at h
          simp only [Option.map_some, Option.some.injEq] at h
          subst h
          exact ih (l.drop (lenF l)) (by simp [lenF]; omega) p hq
      · rw [if_neg h0] at h
        cases h
theorem allF_suffix {most : Int} : ∀ (n : Nat) (l : List UInt8) (P : List Fr × List UInt8), allF most n l = some P → l.drop (l.length - P.2.length) = P.2 ∧ P.2.length ≤ l.length := by
  intro n
  induction n with
  | zero =>
    intro l P h
    simp only [allF, Option.some.injEq] at h
    subst h
    simp
  | succ n ih =>
    intro l P h
    unfold allF at h
    by_cases h16 : parseK l most = 16
    · rw [if_pos h16] at h
      simp only [Option.some.injEq] at h
      subst h
      simp
    · rw [if_neg h16] at h
      by_cases h0 : parseK l most = 0
      · rw [if_pos h0] at h
        cases hq : allF most n (l.drop (lenF l)) with
        | none => rw [hq] at h; simp at h
        | some p =>
          rw [hq] at h
          simp only [Option.map_some, Option.some.injEq] at h
          subst h
          obtain ⟨h1, h2⟩ := ih _ p hq
          simp only [List.length_drop] at h1 h2
          obtain ⟨_, _, h3⟩ := parseK_ok h0
          have h3' : lenF l ≤ l.length := h3
          refine ⟨?_, by simp only []; omega⟩
          rw [List.drop_drop] at h1
          simp only []
          rw [show l.length - p.2.length = lenF l + (l.length - lenF l - p.2.length) by omega]
          exact h1
      · rw [if_neg h0] at h
        cases h
/-- frames in memory -/
def FsOk (w : World) (base : Nat) (fs : List (Fr × Option Addr)) : Prop :=
  ∀ p ∈ fs, Pay w base p.2 p.1.pl ∧ p.1.st ≤ 2147483647 ∧ p.1.pl.length ≤ 16777215
theorem FsOk.fresh {w w' : World} {base : Nat} {fs : List (Fr × Option Addr)} (h : FsOk w base fs) (hf : Fresh w w') : FsOk w' base fs := fun p hp => by
  obtain ⟨h1, h2⟩ := h p hp
  exact ⟨h1.fresh hf, h2⟩
theorem FsOk.only {S : Nat → Prop} {w w' : World} {base : Nat} {fs : List (Fr × Option Addr)} (h : FsOk w base fs) (ho : Only S w w') (hs : ∀ g cs, Blk w g 5 cs → ¬ S g) : FsOk w' base fs := fun p hp => by
  obtain ⟨h1, h2⟩ := h p hp
  exact ⟨h1.only ho hs, h2⟩
def OwnF (w : World) (base : Nat) (v : Value) (fs : List (Fr × Option Addr)) : Prop :=
  Own w base 34 4 v fs.length (fs.flatMap cellsF) ∧ FsOk w base fs
theorem OwnF.fresh {w w' : World} {base : Nat} {v : Value} {fs : List (Fr × Option Addr)} (h : OwnF w base v fs) (hf : Fresh w w') : OwnF w' base v fs := ⟨h.1.fresh hf, h.2.fresh hf⟩
theorem fr_info : (Tryz.prog.info? 34).map (fun i => (i.zero, i.size, i.bytes)) = some (some (.agg #[.int .i64 0, .int .i64 0, .int .i64 0, .slice none 0 0]), 4, 48) := by kernel_rfl
theorem Own.blk {w : World} {base sz n : Nat} {E : TypeId} {v : Value} {xs : List Value} (h : Own w base E sz v n xs) {g : Nat} (hg : v.ownBlock = some g) : ∃ cur, Blk w g E cur := by
  rcases h.2 with ⟨rfl, _⟩ | ⟨g', cap, cur, rfl, _, hh, _⟩
  · cases hg
  · simp [Value.ownBlock] at hg
    subst hg
    exact ⟨cur, hh⟩
theorem OwnF.push {w0 w : World} {base : Nat} {v : Value} {fs : List (Fr × Option Addr)} (h : OwnF w base v fs) (hb : Below base w0 w) (hbase : base ≤ w0.heap.size) (p : Fr × Option Addr) (hp : Pay w base p.2 p.1.pl) (hst : p.1.st ≤ 2147483647) (hpl : p.1.pl.length ≤ 16777215) (hn : (fs.length + 1) * 48 ≤ 140737488355328) (cs : Array Value) (hcs : cs.toList = cellsF p) (g : Nat) (hg : w.heap.size = g) :
    ∃ A' c' w', (Builtin.append_ #[22, 22] 22 #[v, .slice (some ⟨g, 0, none⟩) 1 1]).run Tryz.prog (w.alloc (.cells cs 34)) = .ok (.slice A' (fs.length + 1) c') w' ∧ OwnF w' base (.slice A' (fs.length + 1) c') (fs ++ [p]) ∧ Below base w0 w' := by
  subst hg
  have h4 : cs.size = 4 := by rw [← Array.length_toList, hcs]; rfl
  obtain ⟨v', w', hr, ho, hbl, hne, hg⟩ := Own.push (P := Tryz.prog) Tryz.underlying22 fr_info rfl (by omega) 22 h.1 hb hbase cs h4 (by
    rw [hcs]
    intro u hu
    simp only [cellsF, List.mem_cons, List.not_mem_nil, or_false] at hu
    rcases hu with rfl | rfl | rfl | rfl <;> rfl) (by unfold maxLen; omega) hn
  obtain ⟨A', c', rfl, _⟩ := ho.slice
  refine ⟨A', c', w', hr, ⟨?_, ?_⟩, hbl⟩
  · rw [hcs] at ho
    simpa using ho
  · have hF : FsOk (w.alloc (.cells cs 34)) base (fs ++ [p]) := by
      intro q hq
      rcases List.mem_append.1 hq with hq | hq
      · exact h.2.fresh (Fresh.alloc _ _) q hq
      · rw [List.mem_singleton] at hq
        subst hq
        exact ⟨hp.fresh (Fresh.alloc _ _), hst, hpl⟩
    refine hF.only (S := fun k => v.ownBlock = some k) ⟨hg.os, hg.tape, hg.output, hg.size, fun k hk hne => hg.block k hk (fun e => hne e.symm)⟩ ?_
    intro g cs' hb' hS
    obtain ⟨cur, hc⟩ := (h.1.fresh (Fresh.alloc w (.cells cs 34))).blk hS
    exact hb'.ne hc (by decide) rfl
def AllOk (P : List Fr × List UInt8) (w : World) (e : Ending) (w' : World) : Prop :=
  ∃ A1 n1 c1 fs A, e = .returned (.tuple #[.slice A1 n1 c1, .slice A P.2.length P.2.length, .int .i64 0]) ∧ n1 = P.1.length ∧ OwnF w' w.heap.size (.slice A1 n1 c1) fs ∧ fs.map Prod.fst = P.1 ∧ Pay w' w.heap.size A P.2 ∧ Fresh w w' ∧ ∀ q ∈ fs, q.2 ≠ A
def AllNo (w : World) (e : Ending) (w' : World) : Prop := e = .returned (.tuple #[.slice none 0 0, .slice none 0 0, .int .i64 106]) ∧ Fresh w w'
def AllPost (r : Option (List Fr × List UInt8)) (w : World) (e : Ending) (w' : World) : Prop := (∀ P, r = some P → AllOk P w e w') ∧ (r = none → AllNo w e w')

def AllRel (w : World) (most : Int) (tot : Option (List Fr × List UInt8)) (L0 : Nat) (b v : Value) (wr : World) : Prop :=
  ∃ (r : List UInt8) (A' : Option Addr) (c' : Nat) (fs : List (Fr × Option Addr)) (n : Nat), b = .slice A' r.length c' ∧ r.length ≤ c' ∧ c' ≤ maxLen ∧ BS w A' r ∧ OwnF wr w.heap.size v fs ∧ Fresh w wr ∧ r.length ≤ n ∧
    tot = (allF most n r).map (fun p => (fs.map Prod.fst ++ p.1, p.2)) ∧ fs.length + r.length ≤ L0

theorem allF_16 {most : Int} {n : Nat} {r : List UInt8} (h : parseK r most = 16) : allF most n r = some ([], r) := by
  cases n with
  | zero => rfl
  | succ n => unfold allF; rw [if_pos h]
theorem allF_106 {most : Int} {n : Nat} {r : List UInt8} (hn : r.length ≤ n) (h : parseK r most = 106) : allF most n r = none := by
  have := parseK_long (l := r) (most := most) (by omega)
  obtain ⟨m, rfl⟩ : ∃ m, n = m + 1 := ⟨n - 1, by omega⟩
  unfold allF
  rw [if_neg (by omega), if_neg (by omega)]
theorem allF_0 {most : Int} {n : Nat} {r : List UInt8} (hn : r.length ≤ n) (h : parseK r most = 0) : ∃ m, (r.drop (lenF r)).length ≤ m ∧ allF most n r = (allF most m (r.drop (lenF r))).map fun p => (headF r :: p.1, p.2) := by
  have := parseK_long (l := r) (most := most) (by omega)
  obtain ⟨m, rfl⟩ : ∃ m, n = m + 1 := ⟨n - 1, by omega⟩
  refine ⟨m, by simp [lenF]; omega, ?_⟩
  conv => lhs; unfold allF
  rw [if_neg (by omega), if_pos h]

set_option maxRecDepth 100000 in
set_option maxHeartbeats 3200000 in
theorem fall (A : Option Addr) (c : Nat) (l : List UInt8) (most : Int) (w : World) (hl : l.length ≤ c) (hc : c ≤ maxLen) (hA : BS w A l) (hL : (l.length + 1) * 48 ≤ 140737488355328) :
    Calls Tryz.prog 37 #[.slice A l.length c, .int .i64 most] w (AllPost (allF most l.length l) w) := by
  obtain ⟨tot, htot⟩ : ∃ tot, tot = allF most l.length l := ⟨_, rfl⟩
  have HS : Hid (AllRel w most tot l.length (.slice A l.length c) (.slice none 0 0) w) :=
    ⟨l, A, c, [], l.length, rfl, hl, hc, hA, ⟨Own.nil _ _ _ _, by intro p hp; simp at hp⟩, Fresh.refl _, Nat.le_refl _, by rw [htot]; cases allF most l.length l <;> simp, by simp⟩
  rw [← htot]
  clear htot hA hc hl
  generalize hL0 : l.length = L0 at *
  go_enter Tryz.func37, Tryz.ntmps37
  go_wp2
  go_loopw [0, 7] (fun b v wr => AllRel w most tot L0 b v wr) (fun b _ _ => match b with | .slice _ n _ => n | _ => 0)
  case atStart => exact HS.out
  case round =>
    obtain ⟨r, A', c', fs, n, rfl, hrc, hcm, hbs, ho, hf, hrn, ht, hLr⟩ := hrel
    have hcm' := hcm
    unfold maxLen at hcm'
    obtain ⟨A1, c1, rfl, _⟩ := ho.1.slice
    have HT := Lib.hid ht
    have HO := Lib.hid ho
    have HF := Lib.hid hf
    have HBS := Lib.hid hbs
    clear ht ho hf hbs HS
    rcases parseK_cases r most with hk | hk | hk
    · have HP := Lib.hid (fparse_no A' r.length c' r most 16 wr rfl hrc hcm (HBS.out.fresh HF.out) 16 hk (by omega) (by omega))
      have HA := Lib.hid (allF_16 (n := n) hk)
      clear hk
      go_wp2_with fail
      with_reducible refine HP.out.mono ?_
      rintro e w2 ⟨rfl, hf2⟩
      have HF2 := Lib.hid (HF.out.trans (hf2.trans (Fresh.alloc w2 (.cells #[.int .i64 0, .int .i64 0, .int .i64 0, .slice none 0 0] 34))))
      have HO2 := Lib.hid (HO.out.fresh (hf2.trans (Fresh.alloc w2 (.cells #[.int .i64 0, .int .i64 0, .int .i64 0, .slice none 0 0] 34))))
      clear hf2
      go_wp2_with fail
      with_reducible refine (onewR A' r.length c' r _ rfl (HBS.out.fresh HF2.out) (by omega)).mono ?_
      rintro e w3 ⟨p, g, rfl, hp, hg, hr3, hf3⟩
      have HO3 := Lib.hid (HO2.out.fresh hf3)
      have HF3 := Lib.hid (HF2.out.trans hf3)
      have hpw : w.heap.size ≤ p := by have := HF2.out.size; omega
      have hgw : w.heap.size ≤ g := by have := HF2.out.size; omega
      have HNE : Hid (∀ q ∈ fs, q.2 ≠ some ⟨g, 0, none⟩) := fun q hq e => by
        obtain ⟨g', e', _, hb'⟩ := (HO2.out.2 q hq).1
        rw [e'] at e
        cases e
        have := hb'.lt
        omega
      clear hf3 hp hg
      go_wp2_with fail
      with_reducible refine (orest_new p g r r.length _ hr3 rfl).mono ?_
      rintro e w4 ⟨rfl, hbk4, _, ho4⟩
      have hgp : g ≠ p := hr3.2.2
      have HO4 : Hid (OwnF w4 w.heap.size (.slice A1 fs.length c1) fs) := by
        have hpb : ∀ g' cs, Blk w3 g' 5 cs → ¬ g' = p := by
          intro g' cs hb e
          subst e
          exact hb.ne hr3.1.blk (by decide) rfl
        refine ⟨HO3.out.1.only ho4 ?_, HO3.out.2.only ho4 hpb⟩
        intro k hk e
        subst e
        obtain ⟨cur, hcur⟩ := HO3.out.1.blk hk
        exact hcur.ne hr3.1.blk (by decide) rfl
      have HF4 : Hid (Fresh w w4) := Below.trans HF3.out (Only.below ho4 HF3.out.size (fun k e => by omega))
      have HBK4 := Lib.hid hbk4
      clear hr3 hbk4 ho4
      go_wp2
      go_ret3
      refine ⟨fun P hP => ?_, fun hN => ?_⟩
      · rw [HT.out, HA.out] at hP
        simp at hP
        subst hP
        exact ⟨A1, fs.length, c1, fs, _, rfl, by simp, HO4.out, rfl, ⟨g, rfl, hgw, HBK4.out⟩, HF4.out, HNE.out⟩
      · rw [HT.out, HA.out] at hN
        simp at hN
    · have HP := Lib.hid (fparse_no A' r.length c' r most 106 wr rfl hrc hcm (HBS.out.fresh HF.out) 106 hk (by omega) (by omega))
      have HA := Lib.hid (allF_106 hrn hk)
      clear hk
      go_wp2_with fail
      with_reducible refine HP.out.mono ?_
      rintro e w2 ⟨rfl, hf2⟩
      have HF2 := Lib.hid (HF.out.trans (hf2.trans (Fresh.alloc w2 (.cells #[.int .i64 0, .int .i64 0, .int .i64 0, .slice none 0 0] 34))))
      clear hf2
      go_wp2
      go_ret3
      refine ⟨fun P hP => ?_, fun hN => ⟨rfl, HF2.out⟩⟩
      rw [HT.out, HA.out] at hP
      simp at hP
    · obtain ⟨h9, hm, hs⟩ := parseK_ok hk
      obtain ⟨hp1, hp2, hp3⟩ := headF_pl hk
      have hst := headF_st r
      obtain ⟨m, hm2, hA0⟩ := allF_0 hrn hk
      have hx : r[3]? = some (headF r).x := by
        rw [List.getElem?_eq_getElem (by omega)]
        simp [headF, List.getD, List.getElem?_eq_getElem (show 3 < r.length by omega)]
      have hy : r[4]? = some (headF r).y := by
        rw [List.getElem?_eq_getElem (by omega)]
        simp [headF, List.getD, List.getElem?_eq_getElem (show 4 < r.length by omega)]
      have HP := Lib.hid (fparse_at A' r.length c' r most wr rfl hrc hcm (HBS.out.fresh HF.out) (headF r).x (headF r).y (headF r).pl.length (headF r).st ((headF r).x.toNat : Int) ((headF r).y.toNat : Int) ((headF r).st : Int) (9 + ((headF r).pl.length : Int)) (headF r).pl hk hp1.symm hx hy rfl (by rw [hp1]; rfl) rfl rfl rfl (by omega))
      have HA := Lib.hid hA0
      have hlf : lenF r = 9 + (headF r).pl.length := by unfold lenF; omega
      have HLF := Lib.hid hlf
      have HDL : Hid ((r.drop (lenF r)).length = r.length - lenF r) := by show _ = _; simp
      have hcut := run_cut_from (P := Tryz.prog) Tryz.underlying28 u8_size A' r.length c' (9 + (headF r).pl.length) (by omega)
      rw [show ((9 + (headF r).pl.length : Nat) : Int) = 9 + ((headF r).pl.length : Int) by omega] at hcut
      have HBC : Hid (BS w (cutA A' (9 + (headF r).pl.length) c') (r.drop (lenF r))) := by show BS _ _ _; rw [hlf]; exact HBS.out.cut _ _ hrc
      clear hk hx hy hp1 hA0 hlf hm hs
      generalize headF r = h at *
      generalize lenF r = lf at *
      generalize hr2 : r.drop lf = r2 at *
      go_wp2_with fail
      with_reducible refine HP.out.mono ?_
      rintro e w2 ⟨A2, rfl, _, hpay2, hf2⟩
      have hF2 := hf2.trans (Fresh.alloc w2 (.cells #[.int .i64 (h.x.toNat : Int), .int .i64 (h.y.toNat : Int), .int .i64 (h.st : Int), .slice A2 h.pl.length h.pl.length] 34))
      obtain ⟨A6, c6, w6, hap6, ho6, hbl6⟩ := OwnF.push (w0 := w) (w := w2.alloc (.cells #[.int .i64 (h.x.toNat : Int), .int .i64 (h.y.toNat : Int), .int .i64 (h.st : Int), .slice A2 h.pl.length h.pl.length] 34)) (HO.out.fresh hF2) (HF.out.trans hF2) (Nat.le_refl _) (h, A2) ((hpay2.base_le HF.out.size).fresh (Fresh.alloc _ _)) hst hp2 (by omega) #[.int .i64 (h.x.toNat : Int), .int .i64 (h.y.toNat : Int), .int .i64 (h.st : Int), .slice A2 h.pl.length h.pl.length] rfl (w2.heap.size + 1) (by simp)
      have HO6 := Lib.hid ho6
      have HF6 : Hid (Fresh w w6) := hbl6
      clear hF2 hf2 hpay2 ho6 hbl6
      go_wp2_with (at_builtin; with_reducible refine wp_app rfl (.tmp 27) (.tmp 29) _ rfl hap6 rfl rfl rfl ?_)
      go_roundw
      case rel =>
        refine ⟨r2, cutA A' (9 + h.pl.length) c', c' - (9 + h.pl.length), fs ++ [(h, A2)], m, ?_, ?_, ?_, HBC.out, ?_, HF6.out, hm2, ?_, ?_⟩
        · congr 1
          have := HDL.out; have := HLF.out; omega
        · have := HDL.out; have := HLF.out; omega
        · unfold maxLen; omega
        · simpa using HO6.out
        · rw [HT.out, HA.out]
          cases allF most m r2 with
          | none => rfl
          | some p => simp
        · have := HDL.out; have := HLF.out; simp; omega
      case measure => simp; omega
theorem fall_at (A : Option Addr) (n c : Nat) (l : List UInt8) (most : Int) (r : Option (List Fr × List UInt8)) (w : World) (hn : l.length = n) (hl : n ≤ c) (hc : c ≤ maxLen) (hA : BS w A l) (hL : (n + 1) * 48 ≤ 140737488355328) (hr : allF most n l = r) :
    Calls Tryz.prog 37 #[.slice A n c, .int .i64 most] w (AllPost r w) := by
  subst hn hr
  exact fall A c l most w hl hc hA hL
def rowB (qs : List Fr) : List UInt8 := qs.flatMap fun q => frB2 q.x q.y q.st q.pl
theorem rowB_snoc (qs : List Fr) (q : Fr) : rowB (qs ++ [q]) = rowB qs ++ frB2 q.x q.y q.st q.pl := by simp [rowB]
theorem allF_row (qs : List Fr) (hq : ∀ q ∈ qs, q.st ≤ 2147483647 ∧ q.pl.length ≤ 200) (t : List UInt8) (ht : t.length ≤ 8) : ∀ n, (rowB qs ++ t).length ≤ n → allF 200 n (rowB qs ++ t) = some (qs, t) := by
  induction qs with
  | nil =>
    intro n hn
    refine allF_16 ?_
    unfold parseK
    rw [if_pos (by simp [rowB]; omega)]
  | cons q qs ih =>
    intro n hn
    obtain ⟨h1, h2⟩ := hq q (by simp)
    have e : rowB (q :: qs) ++ t = frB2 q.x q.y q.st q.pl ++ (rowB qs ++ t) := by simp [rowB]
    rw [e] at hn ⊢
    have hk : parseK (frB2 q.x q.y q.st q.pl ++ (rowB qs ++ t)) 200 = 0 := by rw [frB2_parse _ _ _ _ _ _ (by omega), if_neg (by omega)]
    obtain ⟨m, hm, hA⟩ := allF_0 hn hk
    have hlf : lenF (frB2 q.x q.y q.st q.pl ++ (rowB qs ++ t)) = 9 + q.pl.length := by unfold lenF; rw [frB2_num _ _ _ _ _ (by omega)]
    have hd : (frB2 q.x q.y q.st q.pl ++ (rowB qs ++ t)).drop (9 + q.pl.length) = rowB qs ++ t := by
      rw [List.drop_append_of_le_length (by rw [frB2_length]; omega), List.drop_of_length_le (by rw [frB2_length]; omega)]
      rfl
    rw [hlf, hd] at hm hA
    rw [hA, ih (fun p hp => hq p (by simp [hp])) m hm]
    have hh : headF (frB2 q.x q.y q.st q.pl ++ (rowB qs ++ t)) = q := by
      unfold headF
      rw [List.getD_eq_getElem?_getD, List.getD_eq_getElem?_getD, frB2_get3, frB2_get4, frB2_stream _ _ _ _ _ h1, frB2_num _ _ _ _ _ (by omega), frB2_pl]
      rfl
    rw [hh]
    rfl

end Go.Proofs.YtginhebfjbhmnaaGreat

/-
  Contracts of package reasm.
-/
namespace Go.Proofs.YtginhebfjbhmnaaGreat
set_option maxRecDepth 100000
set_option linter.unusedVariables false
open Go.RowKit

/-- How many bytes more there must be. -/
def needI (l : List UInt8) : Int := if l.length < 9 then 9 - (l.length : Int) else 9 + (numL (l.take 3) : Int) - (l.length : Int)
theorem parseK_16 {l : List UInt8} {most : Int} (h : parseK l most = 16) : l.length < 9 ∨ (9 ≤ l.length ∧ (numL (l.take 3) : Int) ≤ most ∧ l.length < 9 + numL (l.take 3)) := by
  unfold parseK at h
  split at h
  · omega
  · split at h
    · omega
    · split at h
      · omega
      · omega
theorem needI_pos {l : List UInt8} {most : Int} (h : parseK l most = 16) : 1 ≤ needI l ∧ needI l ≤ 16777224 := by
  have := numL_take3 l
  unfold needI
  rcases parseK_16 h with h | ⟨h1, h2, h3⟩
  · rw [if_pos h]; omega
  · rw [if_neg (by omega)]; omega
theorem parse_need {l b : List UInt8} {most : Int} (h : parseK l most = 16) (hb : (b.length : Int) < needI l) : parseK (l ++ b) most = 16 := by
  have hlen : (l ++ b).length = l.length + b.length := List.length_append
  unfold needI at hb
  rcases parseK_16 h with h | ⟨h1, h2, h3⟩
  · rw [if_pos h] at hb
    unfold parseK
    rw [if_pos (by omega)]
  · rw [if_neg (by omega)] at hb
    have ht : (l ++ b).take 3 = l.take 3 := List.take_append_of_le_length (by omega)
    unfold parseK
    rw [ht, if_neg (by omega), if_neg (by omega), if_pos (by omega)]

/-- A living reassembler at block p: the bytes l wait, in the row v. -/
structure RsAt (w : World) (p : Nat) (most : Int) (l : List UInt8) (v : Value) : Prop where
  blk : Blk w p 81 #[.int .i64 most, v, .bool false]
  own : Own w 0 5 1 v l.length (l.map byteV)
  inv : parseK l most = 16
  m0 : 0 ≤ most
  m1 : most ≤ 16777215
/-- A dead one. -/
def RsDead (w : World) (p : Nat) : Prop := ∃ A c, Blk w p 81 #[.int .i64 0, .slice A 0 c, .bool true]
theorem RsAt.only {S : Nat → Prop} {w w' : World} {p : Nat} {most : Int} {l : List UInt8} {v : Value} (h : RsAt w p most l v) (ho : Only S w w') (hp : ¬ S p) (hv : ∀ k, v.ownBlock = some k → ¬ S k) : RsAt w' p most l v :=
  ⟨h.blk.only ho hp, h.own.only ho hv, h.inv, h.m0, h.m1⟩
theorem RsAt.fresh {w w' : World} {p : Nat} {most : Int} {l : List UInt8} {v : Value} (h : RsAt w p most l v) (hf : Fresh w w') : RsAt w' p most l v :=
  ⟨h.blk.fresh hf, h.own.fresh hf, h.inv, h.m0, h.m1⟩
theorem RsAt.ne {w : World} {p : Nat} {most : Int} {l : List UInt8} {v : Value} (h : RsAt w p most l v) : ∀ k, v.ownBlock = some k → k ≠ p ∧ k < w.heap.size := fun k hk => by
  obtain ⟨cur, hc⟩ := h.own.blk hk
  exact ⟨fun e => by subst e; exact hc.ne h.blk (by decide) rfl, hc.lt⟩
theorem RsAt.len {w : World} {p : Nat} {most : Int} {l : List UInt8} {v : Value} (h : RsAt w p most l v) : l.length ≤ 16777224 := by
  have := numL_take3 l
  have := h.m1
  rcases parseK_16 h.inv with h | ⟨h1, h2, h3⟩ <;> omega
theorem RsDead.only {S : Nat → Prop} {w w' : World} {p : Nat} (h : RsDead w p) (ho : Only S w w') (hp : ¬ S p) : RsDead w' p := by
  obtain ⟨A, c, h⟩ := h
  exact ⟨A, c, h.only ho hp⟩
theorem RsDead.fresh {w w' : World} {p : Nat} (h : RsDead w p) (hf : Fresh w w') : RsDead w' p := by
  obtain ⟨A, c, h⟩ := h
  exact ⟨A, c, h.fresh hf⟩

section
variable {w : World} {g : Nat} {t : TypeId} {a b c : Value}
theorem Blk.z3 (h : Blk w g t #[a, b, c]) : w.frozen? ⟨g, 0, none⟩ = false ∧ w.frozen? ⟨g, 1, none⟩ = false ∧ w.frozen? ⟨g, 2, none⟩ = false := ⟨h.frozen 0, h.frozen 1, h.frozen 2⟩
end

def RNew (most : Int) (w : World) (e : Ending) (w' : World) : Prop :=
  ∃ p, e = .returned (.tuple #[.pointer (some ⟨p, 0, none⟩), .int .i64 0]) ∧ w.heap.size ≤ p ∧ RsAt w' p most [] (.slice none 0 0) ∧ Fresh w w'
theorem rnew_no (most : Int) (w : World) (h : most < 0 ∨ 16777215 < most) :
    Calls Tryz.prog 17 #[.int .i64 most] w fun e w' => e = .returned (.tuple #[.pointer none, .int .i64 11]) ∧ w = w' := by
  rcases h with h | h
  · go_enter Tryz.func17, Tryz.ntmps17
    go_wp2
    go_ret2
    exact ⟨rfl, rfl⟩
  · have h' : ¬ most < 0 := by omega
    go_enter Tryz.func17, Tryz.ntmps17
    go_wp2
    go_ret2
    exact ⟨rfl, rfl⟩
theorem rnew (most : Int) (w : World) (h0 : 0 ≤ most) (h1 : most ≤ 16777215) :
    Calls Tryz.prog 17 #[.int .i64 most] w (RNew most w) := by
  have h0' : ¬ most < 0 := by omega
  have h1' : ¬ 16777215 < most := by omega
  go_enter Tryz.func17, Tryz.ntmps17
  go_wp2
  go_ret2
  exact ⟨w.heap.size, rfl, Nat.le_refl _, ⟨Blk.new _ _ _, Own.nil _ _ _ _, rfl, h0, h1⟩, Fresh.alloc _ _⟩

set_option maxHeartbeats 800000 in
theorem rneeds (p : Nat) (most : Int) (l : List UInt8) (v : Value) (w : World) (h : RsAt w p most l v) :
    Calls Tryz.prog 36 #[.pointer (some ⟨p, 0, none⟩)] w fun e w' => e = .returned (.int .i64 (needI l)) ∧ w = w' := by
  obtain ⟨A, c, rfl, hlc, hcm, _⟩ := h.own.slice
  obtain ⟨c0, c1, c2⟩ := h.blk.c3
  have hlen := h.len
  have hN3 := numL_take3 l
  unfold maxLen at hcm
  by_cases h9 : l.length < 9
  · have h9' : (l.length : Int) < 9 := by omega
    have HN : Hid (needI l = 9 - (l.length : Int)) := by show _ = _; unfold needI; rw [if_pos h9]
    clear h h9
    go_enter Tryz.func36, Tryz.ntmps36
    go_wp2
    go_ret
    exact ⟨by rw [HN.out]; rfl, rfl⟩
  · have h9' : ¬ (l.length : Int) < 9 := by omega
    have HN : Hid (needI l = 9 + (numL (l.take 3) : Int) - (l.length : Int)) := by show _ = _; unfold needI; rw [if_neg h9]
    have h1 := run_cut_to (P := Tryz.prog) Tryz.underlying28 u8_size A l.length c 3 (by omega)
    rw [show ((3 : Nat) : Int) = 3 by omega] at h1
    have HNum := Lib.hid (onum_yes A c (l.take 3) w (by simp; omega) (h.own.bytes.1.take 3))
    rw [show (l.take 3).length = 3 by simp; omega] at HNum
    clear h h9
    generalize numL (l.take 3) = N at *
    go_enter Tryz.func36, Tryz.ntmps36
    go_wp2_with fail
    with_reducible refine HNum.out.mono ?_
    rintro e w' ⟨rfl, rfl⟩
    go_wp2
    go_ret
    exact ⟨by rw [HN.out]; rfl, rfl⟩
theorem rneeds_dead (p : Nat) (w : World) (h : RsDead w p) :
    Calls Tryz.prog 36 #[.pointer (some ⟨p, 0, none⟩)] w fun e w' => e = .returned (.int .i64 0) ∧ w = w' := by
  obtain ⟨A, c, h⟩ := h
  obtain ⟨c0, c1, c2⟩ := Blk.c3 h
  clear h
  go_enter Tryz.func36, Tryz.ntmps36
  go_wp2
  go_ret
  exact ⟨rfl, rfl⟩
theorem rwaiting (p : Nat) (most : Int) (l : List UInt8) (v : Value) (w : World) (h : RsAt w p most l v) :
    Calls Tryz.prog 30 #[.pointer (some ⟨p, 0, none⟩)] w fun e w' => e = .returned (.int .i64 (l.length : Int)) ∧ w = w' := by
  obtain ⟨A, c, rfl, _⟩ := h.own.slice
  obtain ⟨c0, c1, c2⟩ := h.blk.c3
  clear h
  go_enter Tryz.func30, Tryz.ntmps30
  go_wp2
  go_ret
  exact ⟨rfl, rfl⟩
theorem rwaiting_dead (p : Nat) (w : World) (h : RsDead w p) :
    Calls Tryz.prog 30 #[.pointer (some ⟨p, 0, none⟩)] w fun e w' => e = .returned (.int .i64 0) ∧ w = w' := by
  obtain ⟨A, c, h⟩ := h
  obtain ⟨c0, c1, c2⟩ := Blk.c3 h
  clear h
  go_enter Tryz.func30, Tryz.ntmps30
  go_wp2
  go_ret
  exact ⟨rfl, rfl⟩
end Go.Proofs.YtginhebfjbhmnaaGreat

