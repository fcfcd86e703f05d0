/-
  Package dyn's tables, made within a call: what stands from w0 on; the laws' fixed answer; DynNew.
-/
import Derived.Test.YthjajipagfojoaaDyn9
namespace Go.Proofs.Ythjajipagfojoaa
set_option linter.unusedVariables false
set_option linter.unusedSimpArgs false
open Go.RowKit
structure TabL (w0 w : World) (p : Nat) (fs : List FldT) (lim : Int) : Prop where
  tab : ∃ v, TabAt w w0.heap.size p v fs lim ∧ ∀ k, v.ownBlock = some k → w0.heap.size ≤ k
  hp : w0.heap.size ≤ p
  fr : Fresh w0 w
  l0 : 0 ≤ lim
  l1 : lim ≤ 65536
theorem TabL.fresh {w0 w w' : World} {p : Nat} {fs : List FldT} {lim : Int} (h : TabL w0 w p fs lim) (hf : Fresh w w') : TabL w0 w' p fs lim := by
  obtain ⟨⟨v, h1, h2⟩, h3, h4, h5, h6⟩ := h
  exact ⟨⟨v, h1.fresh hf, h2⟩, h3, h4.trans hf, h5, h6⟩
theorem dyL_new (lim : Int) (h0 : 0 ≤ lim) (h1 : lim ≤ 65536) (w0 w : World) (hf : Fresh w0 w) : Calls Try.prog 10 #[.int .i64 lim] w fun e w' => ∃ p, e = .returned (.tuple #[.pointer (some ⟨p, 0, none⟩), .int .i64 0]) ∧ TabL w0 w' p [] lim ∧ Fresh w w' :=
  (dy_new lim h0 h1 w).mono fun e w' ⟨p, he, hp, ht, hf2⟩ => ⟨p, he, ⟨⟨_, ht _, fun k hk => by cases hk⟩, Nat.le_trans (Below.size hf) hp, hf.trans hf2, h0, h1⟩, hf2⟩
section
variable {w0 w : World} {p : Nat} {fs : List FldT} {lim : Int}
theorem dyL_add (f : FldT) (h : TabL w0 w p fs lim) (hz : tz fs + fz f ≤ 4503599627370496) (hm : fs.length ≤ 1000000) :
    Calls Try.prog 21 #[.pointer (some ⟨p, 0, none⟩), .agg #[.string f.1, .string f.2]] w fun e w' => e = .returned (.int .i64 (goneN fs (lim - fz f) : Int)) ∧ TabL w0 w' p (addF fs lim f) lim := by
  obtain ⟨⟨v, h1, h2⟩, h3, h4, h5, h6⟩ := h
  refine (dy_add f h1 hz (Below.size h4) h5 h6 hm).mono ?_
  rintro e w' ⟨he, v', ht, hv, ho⟩
  refine ⟨he, ⟨v', ht, fun k hk => ?_⟩, h3, Below.trans h4 (Only.below ho (Below.size h4) fun k e => ?_), h5, h6⟩
  · rcases hv k hk with e | e
    · exact h2 k e
    · have := Below.size h4; omega
  · rcases e with e | e
    · omega
    · exact h2 k e
theorem dyL_resize (n : Int) (h : TabL w0 w p fs lim) (hz : tz fs ≤ 4503599627370496) (h0 : 0 ≤ n) (h1 : n ≤ 65536) :
    Calls Try.prog 26 #[.pointer (some ⟨p, 0, none⟩), .int .i64 n] w fun e w' => e = .returned (.tuple #[.int .i64 (goneN fs n : Int), .int .i64 0]) ∧ TabL w0 w' p (fs.drop (goneN fs n)) n := by
  obtain ⟨⟨v, g1, g2⟩, g3, g4, g5, g6⟩ := h
  refine (dy_resize n g1 hz h0 h1).mono ?_
  rintro e w' ⟨he, v', ht, hv, ho⟩
  refine ⟨he, ⟨v', ht, fun k hk => g2 k (by rw [← hv]; exact hk)⟩, g3, Below.trans g4 (Only.below ho (Below.size g4) fun k e => ?_), h0, h1⟩
  rcases e with e | e
  · omega
  · exact g2 k e
theorem dyL_len (h : TabL w0 w p fs lim) : Calls Try.prog 18 #[.pointer (some ⟨p, 0, none⟩)] w fun e w' => e = .returned (.int .i64 (fs.length : Int)) ∧ w' = w := by
  obtain ⟨v, h1, _⟩ := h.tab
  exact dy_len h1
theorem dyL_size (h : TabL w0 w p fs lim) : Calls Try.prog 19 #[.pointer (some ⟨p, 0, none⟩)] w fun e w' => e = .returned (.int .i64 (tz fs : Int)) ∧ w' = w := by
  obtain ⟨v, h1, _⟩ := h.tab
  exact dy_sizeT h1
theorem dyL_limit (h : TabL w0 w p fs lim) : Calls Try.prog 20 #[.pointer (some ⟨p, 0, none⟩)] w fun e w' => e = .returned (.int .i64 lim) ∧ w' = w := by
  obtain ⟨v, h1, _⟩ := h.tab
  exact dy_limit h1
theorem dyL_get (i : Int) (k : Nat) (f : FldT) (h : TabL w0 w p fs lim) (hf : fs[k]? = some f) (hi : i = (fs.length : Int) - (k : Int)) (hm : fs.length ≤ 1000000) : Calls Try.prog 23 #[.pointer (some ⟨p, 0, none⟩), .int .i64 i] w fun e w' => e = .returned (.tuple #[.agg #[.string f.1, .string f.2], .int .i64 0]) ∧ Fresh w w' := by
  obtain ⟨v, h1, _⟩ := h.tab
  exact dy_get i k f h1 hf hi hm
end
def fA : FldT := (⟨#[97, 98, 99, 100]⟩, ⟨#[101, 102, 103, 104]⟩)
def fB : FldT := (⟨#[105, 106, 107, 108]⟩, ⟨#[109, 110, 111, 112]⟩)
def fC : FldT := (⟨#[120]⟩, ⟨#[]⟩)
theorem aw1 : goneN [] (80 - fz fA) = 0 ∧ addF [] 80 fA = [fA] := ⟨rfl, by unfold addF; rw [if_pos (by decide +kernel)]; rfl⟩
theorem aw2 : goneN [fA] (80 - fz fB) = 0 ∧ addF [fA] 80 fB = [fA, fB] := by
  have h : goneN [fA] (80 - fz fB) = 0 := by decide +kernel
  exact ⟨h, by unfold addF; rw [if_pos (by decide +kernel), h]; rfl⟩
theorem aw3 : goneN [fA, fB] (80 - fz fC) = 1 ∧ addF [fA, fB] 80 fC = [fB, fC] := by
  have h : goneN [fA, fB] (80 - fz fC) = 1 := by decide +kernel
  exact ⟨h, by unfold addF; rw [if_pos (by decide +kernel), h]; rfl⟩
set_option maxRecDepth 100000 in
set_option maxHeartbeats 3200000 in
theorem dy_awake (w : World) : Calls Try.prog 9 #[] w fun e w' => e = .returned (.bool true) ∧ Fresh w w' := by
  have hz1 : (tz [fB, fC] : Int) = 73 := by decide +kernel
  go_enter Try.func9, Try.ntmps9
  go_wp2_with fail
  with_reducible refine (dyL_new 80 (by decide) (by decide) w _ (Fresh.refl _)).mono ?_
  rintro e w1 ⟨p, rfl, ht1, _⟩
  have H1 := Lib.hid (dyL_add fA ht1 (by decide +kernel) (by decide))
  rw [aw1.1, aw1.2] at H1
  clear ht1
  go_wp2_with fail
  refine H1.out.mono ?_
  rintro e w2 ⟨rfl, ht2⟩
  have H2 := Lib.hid (dyL_add fB ht2 (by decide +kernel) (by decide))
  rw [aw2.1, aw2.2] at H2
  clear ht2 H1
  go_wp2_with fail
  refine H2.out.mono ?_
  rintro e w3 ⟨rfl, ht3⟩
  have H3 := Lib.hid (dyL_add fC ht3 (by decide +kernel) (by decide))
  rw [aw3.1, aw3.2] at H3
  clear ht3 H2
  go_wp2_with fail
  refine H3.out.mono ?_
  rintro e w4 ⟨rfl, ht4⟩
  have HT4 := Lib.hid ht4
  clear ht4 H3
  go_wp2_with fail
  refine (dyL_get 1 1 fC HT4.out rfl (by decide) (by decide)).mono ?_
  rintro e w5 ⟨rfl, hf5⟩
  have HT5 := Lib.hid (HT4.out.fresh hf5)
  clear hf5 HT4
  simp only [fC]
  go_upto_region 8 with fail
  refine wp_gen (fun W => Fresh w5 W ∧ Blk W w5.heap.size 31 #[.string ⟨#[120]⟩, .string ⟨#[]⟩]) ⟨Fresh.alloc _ _, Blk.new _ _ _⟩ ?_
  rintro W6 ⟨hf6, hb6⟩
  have HT6 := Lib.hid (HT5.out.fresh hf6)
  have HB6 := Lib.hid hb6
  clear hf6 hb6 HT5
  go_wp2_with fail
  with_reducible refine (dy_new_no (-1) (by decide) _).mono ?_
  rintro e w7 ⟨rfl, rfl⟩
  obtain ⟨x0, x1⟩ := HB6.out.c2
  go_wp2_with fail
  with_reducible refine (dyL_len HT6.out).mono ?_
  rintro e w8 ⟨rfl, rfl⟩
  go_wp2_with fail
  with_reducible refine (dyL_size HT6.out).mono ?_
  rintro e w9 ⟨rfl, rfl⟩
  rw [hz1]
  go_wp2
  go_ret
  exact ⟨rfl, HT6.out.fr⟩
end Go.Proofs.Ythjajipagfojoaa
