/-
  Package queue: a row is changed; New, full, Clear.
-/
import Derived.Test.YthfifeclmikbgaaQue2
namespace Go.Proofs.Ythfifeclmikbgaa
set_option linter.unusedVariables false
set_option linter.unusedSimpArgs false
open Go.RowKit
abbrev Rows := Nat → Value × List QI
def updR (ro : Rows) (t : Nat) (y : Value × List QI) : Rows := fun j => if j = t then y else ro j
theorem updR_same (ro : Rows) (t : Nat) (y : Value × List QI) : updR ro t y t = y := by simp [updR]
theorem updR_ne (ro : Rows) {t j : Nat} (y : Value × List QI) (h : j ≠ t) : updR ro t y j = ro j := by simp [updR, h]
section
variable {base q R n : Nat} {by_ it : Int} {ro : Rows} {w w' : World}
theorem QAt.upd {t : Nat} {v' : Value} {xs' : List QI} (h : QAt w base q R n by_ it ro) (ht : t < n) (S : Nat → Prop) (ho : Only S w w') (hq : ¬ S q)
    (hrow : ∀ cs, cs.size = n * 2 → Blk w R 63 cs → Blk w' R 63 ((cs.setIfInBounds (t * 2) v').setIfInBounds (t * 2 + 1) (.int .i64 (qz xs' : Int))))
    (hS : ∀ j, j < n → j ≠ t → ∀ k, (ro j).1.ownBlock = some k → ¬ S k) (hb : ∀ g cs, Blk w g 5 cs → ¬ S g)
    (hown : Own w' base 34 3 v' xs'.length (rowQ xs')) (hok : ∀ x ∈ xs', x.Ok w') (hsep : ∀ j k, j < n → j ≠ t → (ro j).1.ownBlock = some k → v'.ownBlock ≠ some k)
    (hqt : (qz xs' : Int) ≤ by_ ∧ (xs'.length : Int) ≤ it) : QAt w' base q R n by_ it (updR ro t (v', xs')) := by
  obtain ⟨cs, h1, h2, h3⟩ := h.rows
  refine ⟨h.blk.only ho hq, ⟨_, hrow cs h2 h1, by simpa using h2, fun j hj => ?_⟩, fun j hj => ?_, fun j hj x hx => ?_, fun a b k ha hb' hab hk => ?_, fun j hj => ?_, h.n1, h.n64, h.y0, h.y1, h.i0, h.i1⟩
  · by_cases e : j = t
    · subst e
      rw [updR_same]
      constructor
      · rw [Array.getElem?_setIfInBounds_ne (by omega)]
        simp [show j * 2 < cs.size by omega]
      · simp [show j * 2 + 1 < cs.size by omega]
    · rw [updR_ne _ _ e, Array.getElem?_setIfInBounds_ne (by omega), Array.getElem?_setIfInBounds_ne (by omega), Array.getElem?_setIfInBounds_ne (by omega), Array.getElem?_setIfInBounds_ne (by omega)]
      exact h3 j hj
  · by_cases e : j = t
    · subst e; rw [updR_same]; exact hown
    · rw [updR_ne _ _ e]; exact (h.own j hj).only ho (fun k hk => hS j hj e k hk)
  · by_cases e : j = t
    · subst e; rw [updR_same] at hx; exact hok x hx
    · rw [updR_ne _ _ e] at hx; exact (h.ok j hj x hx).only ho hb
  · by_cases ea : a = t
    · subst ea
      rw [updR_same] at hk
      rw [updR_ne _ _ (fun e => hab e.symm)]
      intro hk2
      exact hsep b k hb' (fun e => hab e.symm) hk2 hk
    · rw [updR_ne _ _ ea] at hk
      by_cases eb : b = t
      · subst eb
        rw [updR_same]
        exact hsep a k ha ea hk
      · rw [updR_ne _ _ eb]
        exact h.sep a b k ha hb' hab hk
  · by_cases e : j = t
    · subst e; rw [updR_same]; exact hqt
    · rw [updR_ne _ _ e]; exact h.quota j hj
theorem QAt.ne (h : QAt w base q R n by_ it ro) : q ≠ R := by
  obtain ⟨cs, h1, _⟩ := h.rows
  exact h.blk.ne h1 (by decide)
theorem QAt.own_ne (h : QAt w base q R n by_ it ro) {t k : Nat} (ht : t < n) (hk : (ro t).1.ownBlock = some k) : k ≠ q ∧ k ≠ R ∧ k < w.heap.size := by
  obtain ⟨cs, h1, _⟩ := h.rows
  obtain ⟨cur, hc⟩ := ownQ (h.own t ht) hk
  exact ⟨hc.ne h.blk (by decide), hc.ne h1 (by decide), hc.lt⟩
theorem QAt.byte_ne (h : QAt w base q R n by_ it ro) {g : Nat} {cs : Array Value} (hg : Blk w g 5 cs) : g ≠ q ∧ g ≠ R ∧ ∀ t, t < n → (ro t).1.ownBlock ≠ some g := by
  obtain ⟨cs', h1, _⟩ := h.rows
  refine ⟨hg.ne h.blk (by decide), hg.ne h1 (by decide), fun t ht hk => ?_⟩
  obtain ⟨cur, hc⟩ := ownQ (h.own t ht) hk
  exact hg.ne hc (by decide) rfl
theorem onR {w : World} {R i : Nat} {v : Value} : Only (· = R) w (w.setCell ⟨R, i, none⟩ v) := Only.setCell w ⟨R, i, none⟩ v
def nilR : Rows := fun _ => (.slice none 0 0, [])
theorem row_info : (Try.prog.info? 63).map (fun i => (i.zero, i.size, i.bytes)) = some (some (.agg #[.slice none 0 0, .int .i64 0]), 2, 32) := by kernel_rfl
theorem made2 (a b : Value) (n t : Nat) (ht : t < n) : (madeCells #[a, b] (n * 2))[t * 2]? = some a ∧ (madeCells #[a, b] (n * 2))[t * 2 + 1]? = some b := by
  constructor
  · simp [madeCells, show t * 2 < n * 2 by omega]
  · simp [madeCells, show t * 2 + 1 < n * 2 by omega, Nat.mul_add_mod]
def QNewP (n : Nat) (by_ it : Int) (w : World) (e : Ending) (w' : World) : Prop := ∃ q R, e = .returned (.tuple #[.pointer (some ⟨q, 0, none⟩), .int .i64 0]) ∧ (∀ base, QAt w' base q R n by_ it nilR) ∧ w.heap.size ≤ q ∧ w.heap.size ≤ R ∧ Fresh w w'
theorem qu_new (n : Nat) (by_ it : Int) (w : World) (h1 : 1 ≤ n) (h64 : n ≤ 64) (y0 : 0 ≤ by_) (y1 : by_ ≤ 1048576) (i0 : 1 ≤ it) (i1 : it ≤ 4096) :
    Calls Try.prog 9 #[.int .i64 (n : Int), .int .i64 by_, .int .i64 it] w (QNewP n by_ it w) := by
  obtain ⟨i, hi, hiz, his, hib⟩ := info_parts row_info
  have hmk := run_make_rowN (P := Try.prog) 55 63 i _ Try.underlying55 hi hiz .i64 .i64 n n (Nat.le_refl _) (by rw [hib]; omega) (by omega)
  rw [his, show (Value.agg #[.slice none 0 0, .int .i64 0]).cells = #[.slice none 0 0, .int .i64 0] from rfl] at hmk
  have HM := Lib.hid (made2 (.slice none 0 0) (.int .i64 0) n)
  have HS := Lib.hid (size_madeCells #[Value.slice none 0 0, .int .i64 0] (n * 2))
  generalize madeCells #[Value.slice none 0 0, .int .i64 0] (n * 2) = Z at *
  clear hi hiz his hib
  have a1 : ¬ (n : Int) < 1 := by omega
  have a2 : ¬ (64 : Int) < (n : Int) := by omega
  have a3 : ¬ by_ < 0 := by omega
  have a4 : ¬ 1048576 < by_ := by omega
  have a5 : ¬ it < 1 := by omega
  have a6 : ¬ 4096 < it := by omega
  go_enter Try.func9, Try.ntmps9
  go_wp2
  go_ret2
  refine ⟨w.heap.size + 1, w.heap.size, rfl, fun base => ⟨Blk.mkAt (by simp), ⟨Z, (Blk.new _ _ _).alloc _, HS.out, fun t ht => HM.out t ht⟩, fun t ht => Own.nil _ _ _ _, fun t ht x hx => (by cases hx), fun t t' k _ _ _ hk => (by cases hk), fun t ht => ⟨by simpa [nilR, qz] using y0, by simp [nilR]; omega⟩, h1, h64, y0, y1, i0, i1⟩, by omega, Nat.le_refl _, (Fresh.alloc _ _).allocS _⟩
theorem qu_new_no (a b c : Int) (w : World) (h : a < 1 ∨ 64 < a ∨ b < 0 ∨ 1048576 < b ∨ c < 1 ∨ 4096 < c) : Calls Try.prog 9 #[.int .i64 a, .int .i64 b, .int .i64 c] w fun e w' => e = .returned (.tuple #[.pointer none, .int .i64 11]) ∧ w = w' := by
  by_cases h1 : a < 1
  · clear h
    go_enter Try.func9, Try.ntmps9
    go_wp2
    go_ret2
    exact ⟨rfl, rfl⟩
  by_cases h2 : 64 < a
  · clear h
    go_enter Try.func9, Try.ntmps9
    go_wp2
    go_ret2
    exact ⟨rfl, rfl⟩
  by_cases h3 : b < 0
  · clear h
    go_enter Try.func9, Try.ntmps9
    go_wp2
    go_ret2
    exact ⟨rfl, rfl⟩
  by_cases h4 : 1048576 < b
  · clear h
    go_enter Try.func9, Try.ntmps9
    go_wp2
    go_ret2
    exact ⟨rfl, rfl⟩
  by_cases h5 : c < 1
  · clear h
    go_enter Try.func9, Try.ntmps9
    go_wp2
    go_ret2
    exact ⟨rfl, rfl⟩
  have h6 : 4096 < c := by omega
  clear h
  go_enter Try.func9, Try.ntmps9
  go_wp2
  go_ret2
  exact ⟨rfl, rfl⟩
theorem qu_full_no (i : Int) (h : QAt w base q R n by_ it ro) (hi : i < 0 ∨ (n : Int) ≤ i) : Calls Try.prog 28 #[.pointer (some ⟨q, 0, none⟩), .int .i64 i] w fun e w' => ∃ p, e = .returned (.tuple #[p, .bool false]) ∧ Fresh w w' := by
  have H := Lib.hid (qu_row_no i h hi)
  clear h
  go_enter Try.func28, Try.ntmps28
  go_wp2_with fail
  with_reducible refine H.out.mono ?_
  rintro e w1 ⟨rfl, rfl⟩
  go_upto_region 2 with fail
  go_quiet (fail)
  all_goals
    go_wp2
    go_ret2
    exact ⟨_, rfl, Fresh.drewN _ _⟩
theorem qu_full_none (t : Nat) (h : QAt w base q R n by_ it ro) (ht : t < n) (he : (ro t).2 = []) : Calls Try.prog 28 #[.pointer (some ⟨q, 0, none⟩), .int .i64 (t : Int)] w fun e w' => ∃ p, e = .returned (.tuple #[p, .bool false]) ∧ Fresh w w' := by
  have H := Lib.hid (qu_row t h ht)
  obtain ⟨A, c, hv, _⟩ := (h.own t ht).slice
  obtain ⟨c0, c1, _, _⟩ := h.cells ht
  rw [hv, he] at c0
  rw [show ([] : List QI).length = 0 from rfl] at c0
  clear h hv he
  unfold qrow at H
  go_enter Try.func28, Try.ntmps28
  go_wp2_with fail
  with_reducible refine H.out.mono ?_
  rintro e w1 ⟨rfl, rfl⟩
  go_upto_region 2 with fail
  go_quiet (fail)
  all_goals
    go_wp2
    go_ret2
    exact ⟨_, rfl, Fresh.drewN _ _⟩
theorem qu_full (t : Nat) (h : QAt w base q R n by_ it ro) (ht : t < n) (he : 0 < (ro t).2.length) : Calls Try.prog 28 #[.pointer (some ⟨q, 0, none⟩), .int .i64 (t : Int)] w fun e w' => e = .returned (.tuple #[qrow R t, .bool true]) ∧ Fresh w w' := by
  have H := Lib.hid (qu_row t h ht)
  obtain ⟨A, c, hv, _⟩ := (h.own t ht).slice
  obtain ⟨c0, c1, _, _⟩ := h.cells ht
  have hl := (h.len ht).1
  rw [hv] at c0
  obtain ⟨m, hm⟩ : ∃ m, (ro t).2.length = m := ⟨_, rfl⟩
  rw [hm] at c0 he hl
  clear h hv hm
  unfold qrow at H ⊢
  go_enter Try.func28, Try.ntmps28
  go_wp2_with fail
  with_reducible refine H.out.mono ?_
  rintro e w1 ⟨rfl, rfl⟩
  go_upto_region 2 with fail
  go_quiet (fail)
  all_goals
    go_wp2
    go_ret2
    exact ⟨rfl, Fresh.drewN _ _⟩
def clrR (ro : Rows) (k : Nat) : Rows := fun j => if j < k then (.slice none 0 0, []) else ro j
theorem clrR_succ (ro : Rows) (k : Nat) : updR (clrR ro k) k (.slice none 0 0, []) = clrR ro (k + 1) := by
  funext j
  unfold updR clrR
  by_cases h1 : j = k
  · simp [h1]
  · by_cases h2 : j < k
    · simp [h1, h2, show j < k + 1 by omega]
    · simp [h1, h2, show ¬ j < k + 1 by omega]
def lenR (ro : Rows) (k : Nat) : Nat := ((List.range k).map fun j => (ro j).2.length).sum
theorem lenR_succ (ro : Rows) (k : Nat) : lenR ro (k + 1) = lenR ro k + (ro k).2.length := by simp [lenR, List.range_succ]
theorem lenR_le (ro : Rows) (k n : Nat) (hk : k ≤ n) (h : ∀ j, j < n → (ro j).2.length ≤ 4096) : lenR ro k ≤ k * 4096 := by
  induction k with
  | zero => simp [lenR]
  | succ k ih => rw [lenR_succ]; have := ih (by omega); have := h k (by omega); omega
set_option maxHeartbeats 1600000 in
theorem qu_clear (h : QAt w base q R n by_ it ro) : Calls Try.prog 20 #[.pointer (some ⟨q, 0, none⟩)] w fun e w' => e = .returned (.int .i64 (lenR ro n : Int)) ∧ QAt w' base q R n by_ it (clrR ro n) ∧ Only (· = R) w w' := by
  have HLE := Lib.hid (fun k (hk : k ≤ n) => lenR_le ro k n hk (fun j hj => (h.len hj).1))
  have h64 := h.n64
  obtain ⟨c0, _, _⟩ := h.blk.c3
  have H := Lib.hid h
  clear h
  go_enter Try.func20, Try.ntmps20
  go_wp2
  clear c0
  go_loopw [3, 10] (fun s i wr => ∃ k : Nat, k ≤ n ∧ i = .int .i64 (k : Int) ∧ s = .int .i64 (lenR ro k : Int) ∧ QAt wr base q R n by_ it (clrR ro k) ∧ Only (· = R) w wr) (fun _ i _ => n - (intOf i).toNat)
  case atStart =>
    refine ⟨0, by omega, rfl, rfl, ?_, Only.refl _ _⟩
    have : clrR ro 0 = ro := by funext j; simp [clrR]
    rw [this]
    exact H.out
  case round =>
    obtain ⟨k, hk, rfl, rfl, hq, ho⟩ := hrel
    have HQ := Lib.hid hq
    have HO := Lib.hid ho
    by_cases hlt : k < n
    · have hlt' : (k : Int) < (n : Int) := by omega
      obtain ⟨c0, _, _⟩ := hq.blk.c3
      obtain ⟨A, c, hv, _⟩ := (hq.own k hlt).slice
      have hrk : clrR ro k k = ro k := by simp [clrR]
      obtain ⟨d0, d1, z0, z1⟩ := hq.cells hlt
      rw [hv, hrk] at d0
      have hml : (ro k).2.length ≤ 4096 := (H.out.len hlt).1
      have hs := HLE.out k hk
      have HS := Lib.hid (lenR_succ ro k)
      obtain ⟨m, hm⟩ : ∃ m, (ro k).2.length = m := ⟨_, rfl⟩
      obtain ⟨s, hss⟩ : ∃ s, lenR ro k = s := ⟨_, rfl⟩
      rw [hm] at d0 hml HS
      rw [hss] at hs HS ⊢
      have hR := hq.ne
      clear hq ho hv hrk hm hss
      go_wp2
      go_roundw
      case rel =>
        refine ⟨k + 1, by omega, by go_num, by rw [HS.out]; go_num, ?_, ?_⟩
        · rw [← clrR_succ]
          refine HQ.out.upd hlt (· = R) ?_ (fun e => hR e) ?_ ?_ ?_ (Own.nil _ _ _ _) (fun x hx => by cases hx) (fun j k' _ _ _ e => by cases e) ?_
          · exact onR.trans onR
          · intro cs hcs hb
            exact (hb.set (k * 2) _).set (k * 2 + 1) _
          · intro j hj _ k' hk' e
            exact (HQ.out.own_ne hj hk').2.1 e
          · intro g cs hg e
            exact (HQ.out.byte_ne hg).2.1 e
          · have := HQ.out.y0; have := HQ.out.i0; simp [qz]; omega
        · exact (HO.out.trans onR).trans onR
      case measure => simp [intOf]; omega
    · obtain rfl : k = n := by omega
      clear hq ho
      go_wp2
      go_ret
      exact ⟨rfl, HQ.out, HO.out⟩
end
end Go.Proofs.Ythfifeclmikbgaa
