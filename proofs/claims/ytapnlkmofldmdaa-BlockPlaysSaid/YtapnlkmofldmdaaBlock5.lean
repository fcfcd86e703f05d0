/-
  Layer 12: a block in frames.
-/
import Derived.Test.YtapnlkmofldmdaaBlock4
import Derived.Test.YtapnlkmofldmdaaFrs
import Derived.Laws.BitsAllLaws
import Derived.Laws.BitsLemmas
namespace Go.Proofs.Ytapnlkmofldmdaa
set_option linter.unusedVariables false
open Go.RowKit Go.ChangeShapes Go.WideShapes Go.Deep
/-- How the frames of a block look: frame number i, not the last one. -/
def spTy (i : Nat) : Int := if i = 0 then 1 else 9
def spFl (e : Bool) (i : Nat) : Int := if i = 0 then (if e then 1 else 0) else 0
def spL (most : Nat) (t : List UInt8) (i : Nat) : List UInt8 := (t.drop (i * most)).take most
/-- k frames, none of them the last one. -/
def SpK (most : Nat) (t : List UInt8) (st : Int) (e : Bool) (fs : List FrO) : Prop := ∀ i f, fs[i]? = some f → f.ty = spTy i ∧ f.fl = spFl e i ∧ f.st = st ∧ f.l = spL most t i
/-- All frames: n + 1. -/
def SpAll (most : Nat) (t : List UInt8) (st : Int) (e : Bool) (n : Nat) (fs : List FrO) : Prop :=
  ∃ gs f, fs = gs ++ [f] ∧ gs.length = n ∧ SpK most t st e gs ∧ f.ty = spTy n ∧ f.fl = spFl e n + 4 ∧ f.st = st ∧ f.l = t.drop (n * most)
def SplitR (most : Nat) (t : List UInt8) (st : Int) (e : Bool) (w : World) (en : Ending) (w' : World) : Prop :=
  ∃ n A c fs, en = .returned (.tuple #[.slice A (n + 1) c, .int .i64 0]) ∧ FrsAt w' w.heap.size (.slice A (n + 1) c) fs ∧ SpAll most t st e n fs ∧ (n = 0 ∨ n * most < t.length) ∧ t.length ≤ (n + 1) * most ∧ Fresh w w'
theorem SpK.snoc {most : Nat} {t : List UInt8} {st : Int} {e : Bool} {fs : List FrO} (h : SpK most t st e fs) (f : FrO) (h1 : f.ty = spTy fs.length) (h2 : f.fl = spFl e fs.length) (h3 : f.st = st) (h4 : f.l = spL most t fs.length) : SpK most t st e (fs ++ [f]) := by
  intro i g hg
  by_cases hi : i < fs.length
  · rw [List.getElem?_append_left hi] at hg
    exact h i g hg
  · rw [List.getElem?_append_right (by omega)] at hg
    have h0 : i - fs.length = 0 := by
      have := (List.getElem?_eq_some_iff.1 hg).1
      simp at this
      omega
    rw [h0] at hg
    simp at hg
    subst hg
    have : i = fs.length := by omega
    subst this
    exact ⟨h1, h2, h3, h4⟩
theorem sp_or (e : Bool) (i : Nat) : bits .or .i64 (spFl e i) 4 = spFl e i + 4 := by
  unfold spFl
  split
  · cases e <;> rfl
  · rfl
theorem split_no (st : Int) (A : Option Addr) (n c : Nat) (e : Bool) (most : Int) (w : World) (h : st < 1 ∨ 2147483647 < st ∨ most < 1 ∨ 16384 < most) :
    Calls Try.prog 12 #[.int .i64 st, .slice A n c, .bool e, .int .i64 most] w fun en w' => en = .returned (.tuple #[.slice none 0 0, .int .i64 11]) ∧ w = w' := by
  have key : st < 1 ∨ (¬ st < 1 ∧ 2147483647 < st) ∨ (¬ st < 1 ∧ ¬ 2147483647 < st ∧ most < 1) ∨ (¬ st < 1 ∧ ¬ 2147483647 < st ∧ ¬ most < 1 ∧ 16384 < most) := by omega
  clear h
  rcases key with h | ⟨h, h'⟩ | ⟨h, h', h''⟩ | ⟨h, h', h'', h3⟩
  all_goals
    go_enter Try.func12, Try.ntmps12
    go_wp2
    go_ret2
    exact ⟨rfl, rfl⟩
def lenOfV (v : Value) : Nat := match v with
  | .slice _ n _ => n
  | _ => 0
/-- What the loop keeps. -/
structure SpSt (w wr : World) (g10 : Nat) (most : Nat) (t : List UInt8) (st : Int) (e : Bool) (k : Nat) (v : Value) (fs : List FrO) : Prop where
  len : fs.length = k
  row : FrsAt wr w.heap.size v fs
  sp : SpK most t st e fs
  f : Blk wr g10 46 #[.int .i64 (spTy k), .int .i64 (spFl e k), .int .i64 st, .slice none 0 0]
  g : w.heap.size ≤ g10
  fr : Fresh w wr
  nv : v.ownBlock ≠ some g10
set_option maxRecDepth 100000 in
set_option maxHeartbeats 12800000 in
theorem split_yes (st : Int) (A : Option Addr) (c : Nat) (t : List UInt8) (e : Bool) (most : Nat) (w : World) (hs1 : 1 ≤ st) (hs2 : st ≤ 2147483647) (hm1 : 1 ≤ most) (hm2 : most ≤ 16384) (hlc : t.length ≤ c) (hcm : c ≤ maxLen) (hA : BS w A t) (ht : t.length ≤ 1000000000) :
    Calls Try.prog 12 #[.int .i64 st, .slice A t.length c, .bool e, .int .i64 (most : Int)] w (SplitR most t st e w) := by
  have i1 : ¬ st < 1 := by omega
  have i2 : ¬ 2147483647 < st := by omega
  have i3 : ¬ (most : Int) < 1 := by omega
  have i4 : ¬ 16384 < (most : Int) := by omega
  have HCM := Lib.hid hcm
  have HA := Lib.hid hA
  clear hs1 hs2
  cases e
  · go_enter Try.func12, Try.ntmps12
    go_wp2
    go_loopw [1, 11] (fun tx ou wr => ∃ (k R c' : Nat) (A' : Option Addr) (fs : List FrO), tx = .slice A' R c' ∧ R ≤ c' ∧ c' ≤ maxLen ∧ BS w A' (t.drop (k * most)) ∧ k * most + R = t.length ∧ (k = 0 ∨ 0 < R) ∧ SpSt w wr w.heap.size most t st false k ou fs) (fun tx _ _ => (lenOfV tx))
    case atStart =>
      refine ⟨0, t.length, c, A, [], rfl, hlc, HCM.out, by simpa using HA.out, by simp, .inl rfl, ⟨rfl, FrsAt.nil _ _, fun i f hf => (by cases hf), ?_, Nat.le_refl _, Fresh.alloc _ _, (by simp [Value.ownBlock])⟩⟩
      exact Blk.new _ _ _
    case round =>
      obtain ⟨k, R, c', A', fs, rfl, hRc, hcm', hbs, hkR, hk0, hst⟩ := hrel
      have HST := Lib.hid hst
      have HBS := Lib.hid hbs
      have HCM' := Lib.hid hcm'
      have hlk := hst.len
      have hszr := hst.fr.size
      obtain ⟨f0, f1, f2, f3⟩ := hst.f.c4
      obtain ⟨z0, z1, z2, z3⟩ := hst.f.z4
      obtain ⟨OA, oc, hou, _⟩ := hst.row.own.slice
      rw [hlk] at hou
      subst hou
      have hg10 := hst.f.lt
      clear hst hbs hcm'
      have hkm : k ≤ t.length := by
        rcases hk0 with h | h
        · omega
        · have := Nat.le_mul_of_pos_right k hm1; omega
      have HK0 := Lib.hid hk0
      rcases Nat.lt_trichotomy R most with hq | hq | hq
      · have hq' : (R : Int) < (most : Int) := by omega
        have HCH : Hid (((t.drop (k * most))).length = R) := Lib.hid (by rw [List.length_drop]; omega)
        have hbsc : BS wr A' (t.drop (k * most)) := (HBS.out.fresh HST.out.fr)
        have hc1 := run_cut_to (P := Try.prog) Try.underlying31 u8_size A' R c' R (by omega)
        have hc2 := run_cut_from (P := Try.prog) Try.underlying31 u8_size A' R c' R (by omega)
        obtain ⟨PA, pc, w4, hap, ho4, hO4, hat⟩ := Own.moreX (P := Try.prog) (w := wr) (X := []) Try.underlying31 u8_info 31 (Own.nil wr w.heap.size 5 1) hszr A' c' (t.drop (k * most)) R R HCH.out (by omega) hbsc (by omega)
        rw [List.nil_append] at ho4
        have hF4 : Fresh wr w4 := hO4.fresh (fun k _ e => by cases e)
        have HO4 := Lib.hid ho4
        have HF4 := Lib.hid hF4
        have hf4 := HST.out.f.fresh hF4
        obtain ⟨y0, y1, y2, y3⟩ := hf4.c4
        obtain ⟨x0, x1, x2, x3⟩ := hf4.z4
        have HFB := Lib.hid hf4
        have hor := sp_or false k
        have HPN : Hid (∀ kk, (Value.slice PA R pc).ownBlock = some kk → kk ≠ w.heap.size) := Lib.hid (fun kk hk e => by
          obtain ⟨cur, hc⟩ := ownBlkF ho4 hk
          subst e
          exact hc.ne hf4 (by decide) rfl)
        have HRN : Hid (FrsAt w4 w.heap.size (.slice OA k oc) fs ∧ ∀ kk, (Value.slice OA k oc).ownBlock = some kk → kk ≠ w.heap.size) := Lib.hid ⟨HST.out.row.fresh hF4, fun kk hk e => by
          subst e
          exact HST.out.nv hk⟩
        clear ho4 hO4 hat hF4 hf4 f0 f1 f2 f3 z0 z1 z2 z3 hk0 hbsc
        generalize hfl : spFl false k = fl at *
        generalize hty : spTy k = ty at *
        have HFL := Lib.hid hfl
        have HTY := Lib.hid hty
        clear hfl hty
        go_upto_region 12 with (at_builtin; with_reducible refine wp_app rfl (.const (.slice none 0 0)) (.tmp 37) _ rfl hap rfl rfl rfl ?_)
        refine wp_gen (fun W5 => FrsAt W5 w.heap.size (.slice OA k oc) fs ∧ Blk W5 w.heap.size 46 #[.int .i64 ty, .int .i64 (fl + 4), .int .i64 st, .slice PA R pc] ∧ Own W5 w.heap.size 5 1 (.slice PA R pc) R (((t.drop (k * most))).map byteV) ∧ Fresh w W5) ?_ ?_
        focus
          refine ⟨?_, ?_, ?_, ?_⟩
          · refine HRN.out.1.only (S := fun k => k = w.heap.size) ?_ (fun kk hk e => HRN.out.2 kk hk e) (fun g cs hg e => by subst e; exact hg.ne HFB.out (by decide) rfl)
            repeat (first | with_reducible exact Only.refl _ _ | (with_reducible refine Only.step2 ?_ ?_; focus (exact .inl rfl)))
          · have h1 := (HFB.out.set 3 (.slice PA R pc)).set 1 (.int .i64 (fl + 4))
            simpa using h1
          · refine Own.only (S := fun k => k = w.heap.size) HO4.out ?_ (fun kk hk e => HPN.out kk hk e)
            repeat (first | with_reducible exact Only.refl _ _ | (with_reducible refine Only.step2 ?_ ?_; focus (exact .inl rfl)))
          · repeat (first | with_reducible exact HST.out.fr.trans HF4.out | (with_reducible refine Fresh.step2 ?_ ?_; focus (exact Nat.le_refl _)))
        clear y0 y1 y2 y3 x0 x1 x2 x3 hap hc1 hc2 hor HO4 HF4 HFB HPN HRN
        intro W5 ⟨hr5, hb5, ho5, hF5⟩
        obtain ⟨A6, c6, w6, hap6, hr6, hO6, hat6⟩ := hr5.push hF5.size ⟨ty, (fl + 4), st, PA, pc, (t.drop (k * most))⟩ (by show Own _ _ _ _ (.slice PA ((t.drop (k * most))).length pc) ((t.drop (k * most))).length _; rw [HCH.out]; exact ho5) (by omega) #[.int .i64 ty, .int .i64 (fl + 4), .int .i64 st, .slice PA R pc] (by simp only [FrO.cells, HCH.out]) _ rfl
        rw [hlk] at hap6 hr6 hat6
        obtain ⟨y0, y1, y2, y3⟩ := hb5.c4
        have HB5 := Lib.hid hb5
        have HR6 := Lib.hid hr6
        have HO6 := Lib.hid hO6
        have HF5 := Lib.hid hF5
        have HNV : Hid (∀ kk, (Value.slice OA k oc).ownBlock = some kk → kk ≠ w.heap.size) := Lib.hid (fun kk hk e => by
          subst e
          exact HST.out.nv hk)
        have HNV6 : Hid (∀ kk, (Value.slice A6 (k + 1) c6).ownBlock = some kk → kk ≠ w.heap.size) := Lib.hid (fun kk hk e => by
          have := hF5.size
          rcases hat6 kk hk with h | h
          · exact HNV.out kk h e
          · omega)
        clear hr5 hb5 ho5 hF5 hr6 hO6 hat6
        go_wp2_with (at_builtin; with_reducible refine wp_app rfl (.tmp 50) (.tmp 52) _ rfl hap6 rfl rfl rfl ?_)
        go_ret2
        refine ⟨k, A6, c6, fs ++ [⟨ty, (fl + 4), st, PA, pc, (t.drop (k * most))⟩], rfl, HR6.out, ⟨fs, _, rfl, hlk, HST.out.sp, HTY.out.symm, by rw [HFL.out], rfl, rfl⟩, ?_, ?_, ?_⟩
        · rcases HK0.out with h | h
          · exact .inl h
          · right; omega
        · have : (k + 1) * most = k * most + most := by rw [Nat.add_mul, Nat.one_mul]
          omega
        · exact Only.fresh (S := fun kk => (Value.slice OA k oc).ownBlock = some kk) ((Only.of_fresh HF5.out).trans HO6.out) (fun kk hk e => by have := (HST.out.row.own.lt kk e).1; omega)
      · have hq' : most = R := hq.symm
        subst hq'
        clear hq
        have HCH : Hid (((t.drop (k * most))).length = most) := Lib.hid (by rw [List.length_drop]; omega)
        have hbsc : BS wr A' (t.drop (k * most)) := (HBS.out.fresh HST.out.fr)
        have hc1 := run_cut_to (P := Try.prog) Try.underlying31 u8_size A' most c' most (by omega)
        have hc2 := run_cut_from (P := Try.prog) Try.underlying31 u8_size A' most c' most (by omega)
        obtain ⟨PA, pc, w4, hap, ho4, hO4, hat⟩ := Own.moreX (P := Try.prog) (w := wr) (X := []) Try.underlying31 u8_info 31 (Own.nil wr w.heap.size 5 1) hszr A' c' (t.drop (k * most)) most most HCH.out (by omega) hbsc (by omega)
        rw [List.nil_append] at ho4
        have hF4 : Fresh wr w4 := hO4.fresh (fun k _ e => by cases e)
        have HO4 := Lib.hid ho4
        have HF4 := Lib.hid hF4
        have hf4 := HST.out.f.fresh hF4
        obtain ⟨y0, y1, y2, y3⟩ := hf4.c4
        obtain ⟨x0, x1, x2, x3⟩ := hf4.z4
        have HFB := Lib.hid hf4
        have hor := sp_or false k
        have HPN : Hid (∀ kk, (Value.slice PA most pc).ownBlock = some kk → kk ≠ w.heap.size) := Lib.hid (fun kk hk e => by
          obtain ⟨cur, hc⟩ := ownBlkF ho4 hk
          subst e
          exact hc.ne hf4 (by decide) rfl)
        have HRN : Hid (FrsAt w4 w.heap.size (.slice OA k oc) fs ∧ ∀ kk, (Value.slice OA k oc).ownBlock = some kk → kk ≠ w.heap.size) := Lib.hid ⟨HST.out.row.fresh hF4, fun kk hk e => by
          subst e
          exact HST.out.nv hk⟩
        clear ho4 hO4 hat hF4 hf4 f0 f1 f2 f3 z0 z1 z2 z3 hk0 hbsc
        generalize hfl : spFl false k = fl at *
        generalize hty : spTy k = ty at *
        have HFL := Lib.hid hfl
        have HTY := Lib.hid hty
        clear hfl hty
        go_upto_region 12 with (at_builtin; with_reducible refine wp_app rfl (.const (.slice none 0 0)) (.tmp 37) _ rfl hap rfl rfl rfl ?_)
        refine wp_gen (fun W5 => FrsAt W5 w.heap.size (.slice OA k oc) fs ∧ Blk W5 w.heap.size 46 #[.int .i64 ty, .int .i64 (fl + 4), .int .i64 st, .slice PA most pc] ∧ Own W5 w.heap.size 5 1 (.slice PA most pc) most (((t.drop (k * most))).map byteV) ∧ Fresh w W5) ?_ ?_
        focus
          refine ⟨?_, ?_, ?_, ?_⟩
          · refine HRN.out.1.only (S := fun k => k = w.heap.size) ?_ (fun kk hk e => HRN.out.2 kk hk e) (fun g cs hg e => by subst e; exact hg.ne HFB.out (by decide) rfl)
            repeat (first | with_reducible exact Only.refl _ _ | (with_reducible refine Only.step2 ?_ ?_; focus (exact .inl rfl)))
          · have h1 := (HFB.out.set 3 (.slice PA most pc)).set 1 (.int .i64 (fl + 4))
            simpa using h1
          · refine Own.only (S := fun k => k = w.heap.size) HO4.out ?_ (fun kk hk e => HPN.out kk hk e)
            repeat (first | with_reducible exact Only.refl _ _ | (with_reducible refine Only.step2 ?_ ?_; focus (exact .inl rfl)))
          · repeat (first | with_reducible exact HST.out.fr.trans HF4.out | (with_reducible refine Fresh.step2 ?_ ?_; focus (exact Nat.le_refl _)))
        clear y0 y1 y2 y3 x0 x1 x2 x3 hap hc1 hc2 hor HO4 HF4 HFB HPN HRN
        intro W5 ⟨hr5, hb5, ho5, hF5⟩
        obtain ⟨A6, c6, w6, hap6, hr6, hO6, hat6⟩ := hr5.push hF5.size ⟨ty, (fl + 4), st, PA, pc, (t.drop (k * most))⟩ (by show Own _ _ _ _ (.slice PA ((t.drop (k * most))).length pc) ((t.drop (k * most))).length _; rw [HCH.out]; exact ho5) (by omega) #[.int .i64 ty, .int .i64 (fl + 4), .int .i64 st, .slice PA most pc] (by simp only [FrO.cells, HCH.out]) _ rfl
        rw [hlk] at hap6 hr6 hat6
        obtain ⟨y0, y1, y2, y3⟩ := hb5.c4
        have HB5 := Lib.hid hb5
        have HR6 := Lib.hid hr6
        have HO6 := Lib.hid hO6
        have HF5 := Lib.hid hF5
        have HNV : Hid (∀ kk, (Value.slice OA k oc).ownBlock = some kk → kk ≠ w.heap.size) := Lib.hid (fun kk hk e => by
          subst e
          exact HST.out.nv hk)
        have HNV6 : Hid (∀ kk, (Value.slice A6 (k + 1) c6).ownBlock = some kk → kk ≠ w.heap.size) := Lib.hid (fun kk hk e => by
          have := hF5.size
          rcases hat6 kk hk with h | h
          · exact HNV.out kk h e
          · omega)
        clear hr5 hb5 ho5 hF5 hr6 hO6 hat6
        go_wp2_with (at_builtin; with_reducible refine wp_app rfl (.tmp 50) (.tmp 52) _ rfl hap6 rfl rfl rfl ?_)
        go_ret2
        refine ⟨k, A6, c6, fs ++ [⟨ty, (fl + 4), st, PA, pc, (t.drop (k * most))⟩], rfl, HR6.out, ⟨fs, _, rfl, hlk, HST.out.sp, HTY.out.symm, by rw [HFL.out], rfl, rfl⟩, ?_, ?_, ?_⟩
        · rcases HK0.out with h | h
          · exact .inl h
          · right; omega
        · have : (k + 1) * most = k * most + most := by rw [Nat.add_mul, Nat.one_mul]
          omega
        · exact Only.fresh (S := fun kk => (Value.slice OA k oc).ownBlock = some kk) ((Only.of_fresh HF5.out).trans HO6.out) (fun kk hk e => by have := (HST.out.row.own.lt kk e).1; omega)
      · have hq' : ¬ (R : Int) < (most : Int) := by omega
        have hz : R - most ≠ 0 := by omega
        have hz' : ((R : Int) - (most : Int) == 0) = false := by simp; omega
        have HCH : Hid ((((t.drop (k * most)).take most)).length = most) := Lib.hid (by rw [List.length_take, List.length_drop]; omega)
        have hbsc : BS wr A' ((t.drop (k * most)).take most) := ((HBS.out.fresh HST.out.fr).take most)
        have hc1 := run_cut_to (P := Try.prog) Try.underlying31 u8_size A' R c' most (by omega)
        have hc2 := run_cut_from (P := Try.prog) Try.underlying31 u8_size A' R c' most (by omega)
        obtain ⟨PA, pc, w4, hap, ho4, hO4, hat⟩ := Own.moreX (P := Try.prog) (w := wr) (X := []) Try.underlying31 u8_info 31 (Own.nil wr w.heap.size 5 1) hszr A' c' ((t.drop (k * most)).take most) most most HCH.out (by omega) hbsc (by omega)
        rw [List.nil_append] at ho4
        have hF4 : Fresh wr w4 := hO4.fresh (fun k _ e => by cases e)
        have HO4 := Lib.hid ho4
        have HF4 := Lib.hid hF4
        have hf4 := HST.out.f.fresh hF4
        obtain ⟨y0, y1, y2, y3⟩ := hf4.c4
        obtain ⟨x0, x1, x2, x3⟩ := hf4.z4
        have HFB := Lib.hid hf4
        have hor := sp_or false k
        have HPN : Hid (∀ kk, (Value.slice PA most pc).ownBlock = some kk → kk ≠ w.heap.size) := Lib.hid (fun kk hk e => by
          obtain ⟨cur, hc⟩ := ownBlkF ho4 hk
          subst e
          exact hc.ne hf4 (by decide) rfl)
        have HRN : Hid (FrsAt w4 w.heap.size (.slice OA k oc) fs ∧ ∀ kk, (Value.slice OA k oc).ownBlock = some kk → kk ≠ w.heap.size) := Lib.hid ⟨HST.out.row.fresh hF4, fun kk hk e => by
          subst e
          exact HST.out.nv hk⟩
        clear ho4 hO4 hat hF4 hf4 f0 f1 f2 f3 z0 z1 z2 z3 hk0 hbsc
        generalize hfl : spFl false k = fl at *
        generalize hty : spTy k = ty at *
        have HFL := Lib.hid hfl
        have HTY := Lib.hid hty
        clear hfl hty
        go_upto_region 13 with (at_builtin; with_reducible refine wp_app rfl (.const (.slice none 0 0)) (.tmp 37) _ rfl hap rfl rfl rfl ?_)
        refine wp_gen (fun W5 => FrsAt W5 w.heap.size (.slice OA k oc) fs ∧ Blk W5 w.heap.size 46 #[.int .i64 ty, .int .i64 fl, .int .i64 st, .slice PA most pc] ∧ Own W5 w.heap.size 5 1 (.slice PA most pc) most ((((t.drop (k * most)).take most)).map byteV) ∧ Fresh w W5) ?_ ?_
        focus
          refine ⟨?_, ?_, ?_, ?_⟩
          · refine HRN.out.1.only (S := fun k => k = w.heap.size) ?_ (fun kk hk e => HRN.out.2 kk hk e) (fun g cs hg e => by subst e; exact hg.ne HFB.out (by decide) rfl)
            repeat (first | with_reducible exact Only.refl _ _ | (with_reducible refine Only.step2 ?_ ?_; focus (exact .inl rfl)))
          · have h1 := (HFB.out.set 3 (.slice PA most pc))
            simpa using h1
          · refine Own.only (S := fun k => k = w.heap.size) HO4.out ?_ (fun kk hk e => HPN.out kk hk e)
            repeat (first | with_reducible exact Only.refl _ _ | (with_reducible refine Only.step2 ?_ ?_; focus (exact .inl rfl)))
          · repeat (first | with_reducible exact HST.out.fr.trans HF4.out | (with_reducible refine Fresh.step2 ?_ ?_; focus (exact Nat.le_refl _)))
        clear y0 y1 y2 y3 x0 x1 x2 x3 hap hc1 hc2 hor HO4 HF4 HFB HPN HRN
        intro W5 ⟨hr5, hb5, ho5, hF5⟩
        obtain ⟨A6, c6, w6, hap6, hr6, hO6, hat6⟩ := hr5.push hF5.size ⟨ty, fl, st, PA, pc, ((t.drop (k * most)).take most)⟩ (by show Own _ _ _ _ (.slice PA (((t.drop (k * most)).take most)).length pc) (((t.drop (k * most)).take most)).length _; rw [HCH.out]; exact ho5) (by omega) #[.int .i64 ty, .int .i64 fl, .int .i64 st, .slice PA most pc] (by simp only [FrO.cells, HCH.out]) _ rfl
        rw [hlk] at hap6 hr6 hat6
        obtain ⟨y0, y1, y2, y3⟩ := hb5.c4
        have HB5 := Lib.hid hb5
        have HR6 := Lib.hid hr6
        have HO6 := Lib.hid hO6
        have HF5 := Lib.hid hF5
        have HNV : Hid (∀ kk, (Value.slice OA k oc).ownBlock = some kk → kk ≠ w.heap.size) := Lib.hid (fun kk hk e => by
          subst e
          exact HST.out.nv hk)
        have HNV6 : Hid (∀ kk, (Value.slice A6 (k + 1) c6).ownBlock = some kk → kk ≠ w.heap.size) := Lib.hid (fun kk hk e => by
          have := hF5.size
          rcases hat6 kk hk with h | h
          · exact HNV.out kk h e
          · omega)
        clear hr5 hb5 ho5 hF5 hr6 hO6 hat6
        go_upto_region 14 with (at_builtin; with_reducible refine wp_app rfl (.tmp 54) (.tmp 56) _ rfl hap6 rfl rfl rfl ?_)
        have hb6 := HB5.out.only HO6.out (fun e => HNV.out _ e rfl)
        have hF6 : Fresh w w6 := Only.fresh (S := fun kk => (Value.slice OA k oc).ownBlock = some kk) ((Only.of_fresh HF5.out).trans HO6.out) (fun kk hk e => by have := (HST.out.row.own.lt kk e).1; omega)
        obtain ⟨f0, f1, f2, f3⟩ := hb6.c4
        obtain ⟨z0, z1, z2, z3⟩ := hb6.z4
        have HB6 := Lib.hid hb6
        have HF6 := Lib.hid hF6
        clear hb6 hF6 y0 y1 y2 y3 hap6
        go_wp2
        go_roundw
        case rel =>
          have hk1 : (k + 1) * most = k * most + most := by rw [Nat.add_mul, Nat.one_mul]
          have hbs7 : BS w (cutA A' most c') (t.drop ((k + 1) * most)) := by
            have h1 := HBS.out.cut most c' (by rw [List.length_drop]; omega)
            rw [List.drop_drop] at h1
            rw [hk1]
            exact h1
          have hO7 : Only (· = w.heap.size) w6 ((((w6.setCell ⟨w.heap.size, 0, none⟩ (.int .i64 9)).setCell ⟨w.heap.size, 1, none⟩ (.int .i64 0)).setCell ⟨w.heap.size, 2, none⟩ (.int .i64 st)).setCell ⟨w.heap.size, 3, none⟩ (.slice none 0 0)) :=
            (((Only.setCell w6 ⟨w.heap.size, 0, none⟩ _).trans (Only.setCell _ ⟨w.heap.size, 1, none⟩ _)).trans (Only.setCell _ ⟨w.heap.size, 2, none⟩ _)).trans (Only.setCell _ ⟨w.heap.size, 3, none⟩ _)
          have hb7 := (((HB6.out.set 0 (.int .i64 9)).set 1 (.int .i64 0)).set 2 (.int .i64 st)).set 3 (.slice none 0 0)
          have hb7' : Blk ((((w6.setCell ⟨w.heap.size, 0, none⟩ (.int .i64 9)).setCell ⟨w.heap.size, 1, none⟩ (.int .i64 0)).setCell ⟨w.heap.size, 2, none⟩ (.int .i64 st)).setCell ⟨w.heap.size, 3, none⟩ (.slice none 0 0)) w.heap.size 46 #[.int .i64 9, .int .i64 0, .int .i64 st, .slice none 0 0] := by simpa using hb7
          refine ⟨k + 1, R - most, c' - most, cutA A' most c', fs ++ [⟨ty, fl, st, PA, pc, (t.drop (k * most)).take most⟩], rfl, by omega, by have := HCM'.out; omega, hbs7, by omega, .inr (by omega), ⟨by simp [hlk], ?_, ?_, hb7', Nat.le_refl _, ?_, fun e => HNV6.out _ e rfl⟩⟩
          · exact HR6.out.only hO7 (fun kk hk e => HNV6.out kk hk e) (fun g cs hg e => by subst e; exact hg.ne HB6.out (by decide) rfl)
          · exact HST.out.sp.snoc _ (by rw [hlk]; exact HTY.out.symm) (by rw [hlk]; exact HFL.out.symm) rfl (by rw [hlk]; rfl)
          · exact Below.trans HF6.out (Only.below hO7 HF6.out.size (fun kk e => by omega))
        case measure => simp only [lenOfV]; omega
  · go_enter Try.func12, Try.ntmps12
    go_wp2
    go_loopw [1, 11] (fun tx ou wr => ∃ (k R c' : Nat) (A' : Option Addr) (fs : List FrO), tx = .slice A' R c' ∧ R ≤ c' ∧ c' ≤ maxLen ∧ BS w A' (t.drop (k * most)) ∧ k * most + R = t.length ∧ (k = 0 ∨ 0 < R) ∧ SpSt w wr w.heap.size most t st true k ou fs) (fun tx _ _ => (lenOfV tx))
    case atStart =>
      refine ⟨0, t.length, c, A, [], rfl, hlc, HCM.out, by simpa using HA.out, by simp, .inl rfl, ⟨rfl, FrsAt.nil _ _, fun i f hf => (by cases hf), ?_, Nat.le_refl _, Fresh.alloc _ _, (by simp [Value.ownBlock])⟩⟩
      exact Blk.new _ _ _
    case round =>
      obtain ⟨k, R, c', A', fs, rfl, hRc, hcm', hbs, hkR, hk0, hst⟩ := hrel
      have HST := Lib.hid hst
      have HBS := Lib.hid hbs
      have HCM' := Lib.hid hcm'
      have hlk := hst.len
      have hszr := hst.fr.size
      obtain ⟨f0, f1, f2, f3⟩ := hst.f.c4
      obtain ⟨z0, z1, z2, z3⟩ := hst.f.z4
      obtain ⟨OA, oc, hou, _⟩ := hst.row.own.slice
      rw [hlk] at hou
      subst hou
      have hg10 := hst.f.lt
      clear hst hbs hcm'
      have hkm : k ≤ t.length := by
        rcases hk0 with h | h
        · omega
        · have := Nat.le_mul_of_pos_right k hm1; omega
      have HK0 := Lib.hid hk0
      rcases Nat.lt_trichotomy R most with hq | hq | hq
      · have hq' : (R : Int) < (most : Int) := by omega
        have HCH : Hid (((t.drop (k * most))).length = R) := Lib.hid (by rw [List.length_drop]; omega)
        have hbsc : BS wr A' (t.drop (k * most)) := (HBS.out.fresh HST.out.fr)
        have hc1 := run_cut_to (P := Try.prog) Try.underlying31 u8_size A' R c' R (by omega)
        have hc2 := run_cut_from (P := Try.prog) Try.underlying31 u8_size A' R c' R (by omega)
        obtain ⟨PA, pc, w4, hap, ho4, hO4, hat⟩ := Own.moreX (P := Try.prog) (w := wr) (X := []) Try.underlying31 u8_info 31 (Own.nil wr w.heap.size 5 1) hszr A' c' (t.drop (k * most)) R R HCH.out (by omega) hbsc (by omega)
        rw [List.nil_append] at ho4
        have hF4 : Fresh wr w4 := hO4.fresh (fun k _ e => by cases e)
        have HO4 := Lib.hid ho4
        have HF4 := Lib.hid hF4
        have hf4 := HST.out.f.fresh hF4
        obtain ⟨y0, y1, y2, y3⟩ := hf4.c4
        obtain ⟨x0, x1, x2, x3⟩ := hf4.z4
        have HFB := Lib.hid hf4
        have hor := sp_or true k
        have HPN : Hid (∀ kk, (Value.slice PA R pc).ownBlock = some kk → kk ≠ w.heap.size) := Lib.hid (fun kk hk e => by
          obtain ⟨cur, hc⟩ := ownBlkF ho4 hk
          subst e
          exact hc.ne hf4 (by decide) rfl)
        have HRN : Hid (FrsAt w4 w.heap.size (.slice OA k oc) fs ∧ ∀ kk, (Value.slice OA k oc).ownBlock = some kk → kk ≠ w.heap.size) := Lib.hid ⟨HST.out.row.fresh hF4, fun kk hk e => by
          subst e
          exact HST.out.nv hk⟩
        clear ho4 hO4 hat hF4 hf4 f0 f1 f2 f3 z0 z1 z2 z3 hk0 hbsc
        generalize hfl : spFl true k = fl at *
        generalize hty : spTy k = ty at *
        have HFL := Lib.hid hfl
        have HTY := Lib.hid hty
        clear hfl hty
        go_upto_region 12 with (at_builtin; with_reducible refine wp_app rfl (.const (.slice none 0 0)) (.tmp 37) _ rfl hap rfl rfl rfl ?_)
        refine wp_gen (fun W5 => FrsAt W5 w.heap.size (.slice OA k oc) fs ∧ Blk W5 w.heap.size 46 #[.int .i64 ty, .int .i64 (fl + 4), .int .i64 st, .slice PA R pc] ∧ Own W5 w.heap.size 5 1 (.slice PA R pc) R (((t.drop (k * most))).map byteV) ∧ Fresh w W5) ?_ ?_
        focus
          refine ⟨?_, ?_, ?_, ?_⟩
          · refine HRN.out.1.only (S := fun k => k = w.heap.size) ?_ (fun kk hk e => HRN.out.2 kk hk e) (fun g cs hg e => by subst e; exact hg.ne HFB.out (by decide) rfl)
            repeat (first | with_reducible exact Only.refl _ _ | (with_reducible refine Only.step2 ?_ ?_; focus (exact .inl rfl)))
          · have h1 := (HFB.out.set 3 (.slice PA R pc)).set 1 (.int .i64 (fl + 4))
            simpa using h1
          · refine Own.only (S := fun k => k = w.heap.size) HO4.out ?_ (fun kk hk e => HPN.out kk hk e)
            repeat (first | with_reducible exact Only.refl _ _ | (with_reducible refine Only.step2 ?_ ?_; focus (exact .inl rfl)))
          · repeat (first | with_reducible exact HST.out.fr.trans HF4.out | (with_reducible refine Fresh.step2 ?_ ?_; focus (exact Nat.le_refl _)))
        clear y0 y1 y2 y3 x0 x1 x2 x3 hap hc1 hc2 hor HO4 HF4 HFB HPN HRN
        intro W5 ⟨hr5, hb5, ho5, hF5⟩
        obtain ⟨A6, c6, w6, hap6, hr6, hO6, hat6⟩ := hr5.push hF5.size ⟨ty, (fl + 4), st, PA, pc, (t.drop (k * most))⟩ (by show Own _ _ _ _ (.slice PA ((t.drop (k * most))).length pc) ((t.drop (k * most))).length _; rw [HCH.out]; exact ho5) (by omega) #[.int .i64 ty, .int .i64 (fl + 4), .int .i64 st, .slice PA R pc] (by simp only [FrO.cells, HCH.out]) _ rfl
        rw [hlk] at hap6 hr6 hat6
        obtain ⟨y0, y1, y2, y3⟩ := hb5.c4
        have HB5 := Lib.hid hb5
        have HR6 := Lib.hid hr6
        have HO6 := Lib.hid hO6
        have HF5 := Lib.hid hF5
        have HNV : Hid (∀ kk, (Value.slice OA k oc).ownBlock = some kk → kk ≠ w.heap.size) := Lib.hid (fun kk hk e => by
          subst e
          exact HST.out.nv hk)
        have HNV6 : Hid (∀ kk, (Value.slice A6 (k + 1) c6).ownBlock = some kk → kk ≠ w.heap.size) := Lib.hid (fun kk hk e => by
          have := hF5.size
          rcases hat6 kk hk with h | h
          · exact HNV.out kk h e
          · omega)
        clear hr5 hb5 ho5 hF5 hr6 hO6 hat6
        go_wp2_with (at_builtin; with_reducible refine wp_app rfl (.tmp 50) (.tmp 52) _ rfl hap6 rfl rfl rfl ?_)
        go_ret2
        refine ⟨k, A6, c6, fs ++ [⟨ty, (fl + 4), st, PA, pc, (t.drop (k * most))⟩], rfl, HR6.out, ⟨fs, _, rfl, hlk, HST.out.sp, HTY.out.symm, by rw [HFL.out], rfl, rfl⟩, ?_, ?_, ?_⟩
        · rcases HK0.out with h | h
          · exact .inl h
          · right; omega
        · have : (k + 1) * most = k * most + most := by rw [Nat.add_mul, Nat.one_mul]
          omega
        · exact Only.fresh (S := fun kk => (Value.slice OA k oc).ownBlock = some kk) ((Only.of_fresh HF5.out).trans HO6.out) (fun kk hk e => by have := (HST.out.row.own.lt kk e).1; omega)
      · have hq' : most = R := hq.symm
        subst hq'
        clear hq
        have HCH : Hid (((t.drop (k * most))).length = most) := Lib.hid (by rw [List.length_drop]; omega)
        have hbsc : BS wr A' (t.drop (k * most)) := (HBS.out.fresh HST.out.fr)
        have hc1 := run_cut_to (P := Try.prog) Try.underlying31 u8_size A' most c' most (by omega)
        have hc2 := run_cut_from (P := Try.prog) Try.underlying31 u8_size A' most c' most (by omega)
        obtain ⟨PA, pc, w4, hap, ho4, hO4, hat⟩ := Own.moreX (P := Try.prog) (w := wr) (X := []) Try.underlying31 u8_info 31 (Own.nil wr w.heap.size 5 1) hszr A' c' (t.drop (k * most)) most most HCH.out (by omega) hbsc (by omega)
        rw [List.nil_append] at ho4
        have hF4 : Fresh wr w4 := hO4.fresh (fun k _ e => by cases e)
        have HO4 := Lib.hid ho4
        have HF4 := Lib.hid hF4
        have hf4 := HST.out.f.fresh hF4
        obtain ⟨y0, y1, y2, y3⟩ := hf4.c4
        obtain ⟨x0, x1, x2, x3⟩ := hf4.z4
        have HFB := Lib.hid hf4
        have hor := sp_or true k
        have HPN : Hid (∀ kk, (Value.slice PA most pc).ownBlock = some kk → kk ≠ w.heap.size) := Lib.hid (fun kk hk e => by
          obtain ⟨cur, hc⟩ := ownBlkF ho4 hk
          subst e
          exact hc.ne hf4 (by decide) rfl)
        have HRN : Hid (FrsAt w4 w.heap.size (.slice OA k oc) fs ∧ ∀ kk, (Value.slice OA k oc).ownBlock = some kk → kk ≠ w.heap.size) := Lib.hid ⟨HST.out.row.fresh hF4, fun kk hk e => by
          subst e
          exact HST.out.nv hk⟩
        clear ho4 hO4 hat hF4 hf4 f0 f1 f2 f3 z0 z1 z2 z3 hk0 hbsc
        generalize hfl : spFl true k = fl at *
        generalize hty : spTy k = ty at *
        have HFL := Lib.hid hfl
        have HTY := Lib.hid hty
        clear hfl hty
        go_upto_region 12 with (at_builtin; with_reducible refine wp_app rfl (.const (.slice none 0 0)) (.tmp 37) _ rfl hap rfl rfl rfl ?_)
        refine wp_gen (fun W5 => FrsAt W5 w.heap.size (.slice OA k oc) fs ∧ Blk W5 w.heap.size 46 #[.int .i64 ty, .int .i64 (fl + 4), .int .i64 st, .slice PA most pc] ∧ Own W5 w.heap.size 5 1 (.slice PA most pc) most (((t.drop (k * most))).map byteV) ∧ Fresh w W5) ?_ ?_
        focus
          refine ⟨?_, ?_, ?_, ?_⟩
          · refine HRN.out.1.only (S := fun k => k = w.heap.size) ?_ (fun kk hk e => HRN.out.2 kk hk e) (fun g cs hg e => by subst e; exact hg.ne HFB.out (by decide) rfl)
            repeat (first | with_reducible exact Only.refl _ _ | (with_reducible refine Only.step2 ?_ ?_; focus (exact .inl rfl)))
          · have h1 := (HFB.out.set 3 (.slice PA most pc)).set 1 (.int .i64 (fl + 4))
            simpa using h1
          · refine Own.only (S := fun k => k = w.heap.size) HO4.out ?_ (fun kk hk e => HPN.out kk hk e)
            repeat (first | with_reducible exact Only.refl _ _ | (with_reducible refine Only.step2 ?_ ?_; focus (exact .inl rfl)))
          · repeat (first | with_reducible exact HST.out.fr.trans HF4.out | (with_reducible refine Fresh.step2 ?_ ?_; focus (exact Nat.le_refl _)))
        clear y0 y1 y2 y3 x0 x1 x2 x3 hap hc1 hc2 hor HO4 HF4 HFB HPN HRN
        intro W5 ⟨hr5, hb5, ho5, hF5⟩
        obtain ⟨A6, c6, w6, hap6, hr6, hO6, hat6⟩ := hr5.push hF5.size ⟨ty, (fl + 4), st, PA, pc, (t.drop (k * most))⟩ (by show Own _ _ _ _ (.slice PA ((t.drop (k * most))).length pc) ((t.drop (k * most))).length _; rw [HCH.out]; exact ho5) (by omega) #[.int .i64 ty, .int .i64 (fl + 4), .int .i64 st, .slice PA most pc] (by simp only [FrO.cells, HCH.out]) _ rfl
        rw [hlk] at hap6 hr6 hat6
        obtain ⟨y0, y1, y2, y3⟩ := hb5.c4
        have HB5 := Lib.hid hb5
        have HR6 := Lib.hid hr6
        have HO6 := Lib.hid hO6
        have HF5 := Lib.hid hF5
        have HNV : Hid (∀ kk, (Value.slice OA k oc).ownBlock = some kk → kk ≠ w.heap.size) := Lib.hid (fun kk hk e => by
          subst e
          exact HST.out.nv hk)
        have HNV6 : Hid (∀ kk, (Value.slice A6 (k + 1) c6).ownBlock = some kk → kk ≠ w.heap.size) := Lib.hid (fun kk hk e => by
          have := hF5.size
          rcases hat6 kk hk with h | h
          · exact HNV.out kk h e
          · omega)
        clear hr5 hb5 ho5 hF5 hr6 hO6 hat6
        go_wp2_with (at_builtin; with_reducible refine wp_app rfl (.tmp 50) (.tmp 52) _ rfl hap6 rfl rfl rfl ?_)
        go_ret2
        refine ⟨k, A6, c6, fs ++ [⟨ty, (fl + 4), st, PA, pc, (t.drop (k * most))⟩], rfl, HR6.out, ⟨fs, _, rfl, hlk, HST.out.sp, HTY.out.symm, by rw [HFL.out], rfl, rfl⟩, ?_, ?_, ?_⟩
        · rcases HK0.out with h | h
          · exact .inl h
          · right; omega
        · have : (k + 1) * most = k * most + most := by rw [Nat.add_mul, Nat.one_mul]
          omega
        · exact Only.fresh (S := fun kk => (Value.slice OA k oc).ownBlock = some kk) ((Only.of_fresh HF5.out).trans HO6.out) (fun kk hk e => by have := (HST.out.row.own.lt kk e).1; omega)
      · have hq' : ¬ (R : Int) < (most : Int) := by omega
        have hz : R - most ≠ 0 := by omega
        have hz' : ((R : Int) - (most : Int) == 0) = false := by simp; omega
        have HCH : Hid ((((t.drop (k * most)).take most)).length = most) := Lib.hid (by rw [List.length_take, List.length_drop]; omega)
        have hbsc : BS wr A' ((t.drop (k * most)).take most) := ((HBS.out.fresh HST.out.fr).take most)
        have hc1 := run_cut_to (P := Try.prog) Try.underlying31 u8_size A' R c' most (by omega)
        have hc2 := run_cut_from (P := Try.prog) Try.underlying31 u8_size A' R c' most (by omega)
        obtain ⟨PA, pc, w4, hap, ho4, hO4, hat⟩ := Own.moreX (P := Try.prog) (w := wr) (X := []) Try.underlying31 u8_info 31 (Own.nil wr w.heap.size 5 1) hszr A' c' ((t.drop (k * most)).take most) most most HCH.out (by omega) hbsc (by omega)
        rw [List.nil_append] at ho4
        have hF4 : Fresh wr w4 := hO4.fresh (fun k _ e => by cases e)
        have HO4 := Lib.hid ho4
        have HF4 := Lib.hid hF4
        have hf4 := HST.out.f.fresh hF4
        obtain ⟨y0, y1, y2, y3⟩ := hf4.c4
        obtain ⟨x0, x1, x2, x3⟩ := hf4.z4
        have HFB := Lib.hid hf4
        have hor := sp_or true k
        have HPN : Hid (∀ kk, (Value.slice PA most pc).ownBlock = some kk → kk ≠ w.heap.size) := Lib.hid (fun kk hk e => by
          obtain ⟨cur, hc⟩ := ownBlkF ho4 hk
          subst e
          exact hc.ne hf4 (by decide) rfl)
        have HRN : Hid (FrsAt w4 w.heap.size (.slice OA k oc) fs ∧ ∀ kk, (Value.slice OA k oc).ownBlock = some kk → kk ≠ w.heap.size) := Lib.hid ⟨HST.out.row.fresh hF4, fun kk hk e => by
          subst e
          exact HST.out.nv hk⟩
        clear ho4 hO4 hat hF4 hf4 f0 f1 f2 f3 z0 z1 z2 z3 hk0 hbsc
        generalize hfl : spFl true k = fl at *
        generalize hty : spTy k = ty at *
        have HFL := Lib.hid hfl
        have HTY := Lib.hid hty
        clear hfl hty
        go_upto_region 13 with (at_builtin; with_reducible refine wp_app rfl (.const (.slice none 0 0)) (.tmp 37) _ rfl hap rfl rfl rfl ?_)
        refine wp_gen (fun W5 => FrsAt W5 w.heap.size (.slice OA k oc) fs ∧ Blk W5 w.heap.size 46 #[.int .i64 ty, .int .i64 fl, .int .i64 st, .slice PA most pc] ∧ Own W5 w.heap.size 5 1 (.slice PA most pc) most ((((t.drop (k * most)).take most)).map byteV) ∧ Fresh w W5) ?_ ?_
        focus
          refine ⟨?_, ?_, ?_, ?_⟩
          · refine HRN.out.1.only (S := fun k => k = w.heap.size) ?_ (fun kk hk e => HRN.out.2 kk hk e) (fun g cs hg e => by subst e; exact hg.ne HFB.out (by decide) rfl)
            repeat (first | with_reducible exact Only.refl _ _ | (with_reducible refine Only.step2 ?_ ?_; focus (exact .inl rfl)))
          · have h1 := (HFB.out.set 3 (.slice PA most pc))
            simpa using h1
          · refine Own.only (S := fun k => k = w.heap.size) HO4.out ?_ (fun kk hk e => HPN.out kk hk e)
            repeat (first | with_reducible exact Only.refl _ _ | (with_reducible refine Only.step2 ?_ ?_; focus (exact .inl rfl)))
          · repeat (first | with_reducible exact HST.out.fr.trans HF4.out | (with_reducible refine Fresh.step2 ?_ ?_; focus (exact Nat.le_refl _)))
        clear y0 y1 y2 y3 x0 x1 x2 x3 hap hc1 hc2 hor HO4 HF4 HFB HPN HRN
        intro W5 ⟨hr5, hb5, ho5, hF5⟩
        obtain ⟨A6, c6, w6, hap6, hr6, hO6, hat6⟩ := hr5.push hF5.size ⟨ty, fl, st, PA, pc, ((t.drop (k * most)).take most)⟩ (by show Own _ _ _ _ (.slice PA (((t.drop (k * most)).take most)).length pc) (((t.drop (k * most)).take most)).length _; rw [HCH.out]; exact ho5) (by omega) #[.int .i64 ty, .int .i64 fl, .int .i64 st, .slice PA most pc] (by simp only [FrO.cells, HCH.out]) _ rfl
        rw [hlk] at hap6 hr6 hat6
        obtain ⟨y0, y1, y2, y3⟩ := hb5.c4
        have HB5 := Lib.hid hb5
        have HR6 := Lib.hid hr6
        have HO6 := Lib.hid hO6
        have HF5 := Lib.hid hF5
        have HNV : Hid (∀ kk, (Value.slice OA k oc).ownBlock = some kk → kk ≠ w.heap.size) := Lib.hid (fun kk hk e => by
          subst e
          exact HST.out.nv hk)
        have HNV6 : Hid (∀ kk, (Value.slice A6 (k + 1) c6).ownBlock = some kk → kk ≠ w.heap.size) := Lib.hid (fun kk hk e => by
          have := hF5.size
          rcases hat6 kk hk with h | h
          · exact HNV.out kk h e
          · omega)
        clear hr5 hb5 ho5 hF5 hr6 hO6 hat6
        go_upto_region 14 with (at_builtin; with_reducible refine wp_app rfl (.tmp 54) (.tmp 56) _ rfl hap6 rfl rfl rfl ?_)
        have hb6 := HB5.out.only HO6.out (fun e => HNV.out _ e rfl)
        have hF6 : Fresh w w6 := Only.fresh (S := fun kk => (Value.slice OA k oc).ownBlock = some kk) ((Only.of_fresh HF5.out).trans HO6.out) (fun kk hk e => by have := (HST.out.row.own.lt kk e).1; omega)
        obtain ⟨f0, f1, f2, f3⟩ := hb6.c4
        obtain ⟨z0, z1, z2, z3⟩ := hb6.z4
        have HB6 := Lib.hid hb6
        have HF6 := Lib.hid hF6
        clear hb6 hF6 y0 y1 y2 y3 hap6
        go_wp2
        go_roundw
        case rel =>
          have hk1 : (k + 1) * most = k * most + most := by rw [Nat.add_mul, Nat.one_mul]
          have hbs7 : BS w (cutA A' most c') (t.drop ((k + 1) * most)) := by
            have h1 := HBS.out.cut most c' (by rw [List.length_drop]; omega)
            rw [List.drop_drop] at h1
            rw [hk1]
            exact h1
          have hO7 : Only (· = w.heap.size) w6 ((((w6.setCell ⟨w.heap.size, 0, none⟩ (.int .i64 9)).setCell ⟨w.heap.size, 1, none⟩ (.int .i64 0)).setCell ⟨w.heap.size, 2, none⟩ (.int .i64 st)).setCell ⟨w.heap.size, 3, none⟩ (.slice none 0 0)) :=
            (((Only.setCell w6 ⟨w.heap.size, 0, none⟩ _).trans (Only.setCell _ ⟨w.heap.size, 1, none⟩ _)).trans (Only.setCell _ ⟨w.heap.size, 2, none⟩ _)).trans (Only.setCell _ ⟨w.heap.size, 3, none⟩ _)
          have hb7 := (((HB6.out.set 0 (.int .i64 9)).set 1 (.int .i64 0)).set 2 (.int .i64 st)).set 3 (.slice none 0 0)
          have hb7' : Blk ((((w6.setCell ⟨w.heap.size, 0, none⟩ (.int .i64 9)).setCell ⟨w.heap.size, 1, none⟩ (.int .i64 0)).setCell ⟨w.heap.size, 2, none⟩ (.int .i64 st)).setCell ⟨w.heap.size, 3, none⟩ (.slice none 0 0)) w.heap.size 46 #[.int .i64 9, .int .i64 0, .int .i64 st, .slice none 0 0] := by simpa using hb7
          refine ⟨k + 1, R - most, c' - most, cutA A' most c', fs ++ [⟨ty, fl, st, PA, pc, (t.drop (k * most)).take most⟩], rfl, by omega, by have := HCM'.out; omega, hbs7, by omega, .inr (by omega), ⟨by simp [hlk], ?_, ?_, hb7', Nat.le_refl _, ?_, fun e => HNV6.out _ e rfl⟩⟩
          · exact HR6.out.only hO7 (fun kk hk e => HNV6.out kk hk e) (fun g cs hg e => by subst e; exact hg.ne HB6.out (by decide) rfl)
          · exact HST.out.sp.snoc _ (by rw [hlk]; exact HTY.out.symm) (by rw [hlk]; exact HFL.out.symm) rfl (by rw [hlk]; rfl)
          · exact Below.trans HF6.out (Only.below hO7 HF6.out.size (fun kk e => by omega))
        case measure => simp only [lenOfV]; omega
end Go.Proofs.Ytapnlkmofldmdaa
