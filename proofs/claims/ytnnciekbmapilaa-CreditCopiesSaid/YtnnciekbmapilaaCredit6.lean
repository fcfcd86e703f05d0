/-
  Both sides of a step; a fixed answer.
-/
import Derived.Test.YtnnciekbmapilaaCredit5
namespace Go.Proofs.Ytnnciekbmapilaa
set_option linter.unusedVariables false
open Go.RowKit

theorem ref_spend_range (p n k : Nat) (i x : Int) (w : World) (h : ¬ (0 ≤ i ∧ i < n ∧ 0 ≤ x ∧ x ≤ 2147483647)) (hn : n ≤ 64) :
    Calls Try.prog 22 #[.slice (some ⟨p, 0, none⟩) n k, .int .i64 i, .int .i64 x] w fun e w' => e = .returned (.tuple #[.slice (some ⟨p, 0, none⟩) n k, .int .i64 11]) ∧ w = w' := by
  by_cases h0 : i < 0
  · clear h
    go_enter Try.func22, Try.ntmps22
    go_wp2_with fail
    go_ret2
    exact ⟨rfl, rfl⟩
  · by_cases h1 : (n : Int) ≤ i
    · clear h
      go_enter Try.func22, Try.ntmps22
      go_wp2_with fail
      go_ret2
      exact ⟨rfl, rfl⟩
    · have h1' : decide ((n : Int) ≤ i) = false := by simpa using h1
      have h0' : decide (i < 0) = false := by simpa using h0
      by_cases h2 : x < 0
      · clear h
        go_enter Try.func22, Try.ntmps22
        go_wp2_with fail
        go_ret2
        exact ⟨rfl, rfl⟩
      · have h3 : 2147483647 < x := by omega
        have h2' : decide (x < 0) = false := by simpa using h2
        clear h
        go_enter Try.func22, Try.ntmps22
        go_wp2_with fail
        go_ret2
        exact ⟨rfl, rfl⟩
theorem ref_spend_full (p n k i : Nat) (f : Nat → Int) (x : Int) (w : World) (hI : Ints w p n k f) (hn : n ≤ 64) (h1 : i < n) (h2 : 0 < x) (h3 : x ≤ 2147483647) (h4 : f i < x) :
    Calls Try.prog 22 #[.slice (some ⟨p, 0, none⟩) n k, .int .i64 (i : Int), .int .i64 x] w fun e w' => e = .returned (.tuple #[.slice (some ⟨p, 0, none⟩) n k, .int .i64 15]) ∧ w = w' := by
  have hc := hI.cell h1
  generalize f i = y at *
  have a1 : decide ((i : Int) < 0) = false := by simp
  have a2 : decide ((n : Int) ≤ (i : Int)) = false := by simp; omega
  have a3 : decide (x < 0) = false := by simp; omega
  have a4 : decide (2147483647 < x) = false := by simp; omega
  clear hI
  go_enter Try.func22, Try.ntmps22
  go_wp2_with fail
  go_ret2
  exact ⟨rfl, rfl⟩
set_option maxHeartbeats 800000 in
theorem ref_spend_ok (p n k i : Nat) (f : Nat → Int) (x : Int) (w : World) (hI : Ints w p n k f) (hn : n ≤ 64) (h1 : i < n) (h2 : 0 ≤ x) (h3 : x ≤ 2147483647) (h4 : x ≤ f i) (h5 : f i ≤ 2147483647) :
    Calls Try.prog 22 #[.slice (some ⟨p, 0, none⟩) n k, .int .i64 (i : Int), .int .i64 x] w (RowP2 n (updN f i (f i - x)) w) := by
  have hc := hI.cell h1
  have a1 : decide ((i : Int) < 0) = false := by simp
  have a2 : decide ((n : Int) ≤ (i : Int)) = false := by simp; omega
  have a3 : decide (x < 0) = false := by simp; omega
  have a4 : decide (2147483647 < x) = false := by simp; omega
  obtain ⟨A', c', w', hap, ho, hon, hat⟩ := app_row (P := Try.prog) Try.underlying28 int_info rfl 28 (Own.nil w w.heap.size 3 1) (Nat.le_refl _) p k (n := n) (f := f) (fun j hj => hI.cell hj) (by omega)
  rw [Nat.zero_add, List.nil_append] at ho
  rw [Nat.zero_add] at hap
  obtain ⟨g', k', e, hg, hi⟩ := ho.ints (by omega)
  cases e
  have hf : Fresh w w' := Only.fresh hon (fun i hi e => by cases e)
  have hc2 := hi.cell h1
  have hz2 := hi.frozen i
  have HI := Lib.hid hi
  have HF := Lib.hid hf
  have HG := Lib.hid hg
  obtain ⟨y, hy⟩ : ∃ y, f i = y := ⟨_, rfl⟩
  rw [hy] at hc hc2 h4 h5 ⊢
  clear hI ho hon hat hi hf hg hy
  by_cases h0 : x = 0
  · have a5 : decide (0 < x) = false := by simp; omega
    subst h0
    go_enter Try.func22, Try.ntmps22
    go_wp2_with (at_builtin; with_reducible refine wp_app rfl (.tmp 37) (.tmp 38) _ rfl hap rfl (by simp [Act.eval, Act.put]) (by simp [Act.eval, Act.put]) ?_)
    go_ret2
    exact ⟨g', c', by simp, HG.out, by simpa using HI.out.set h1 _, HF.out.step _ _ HG.out⟩
  · have a5 : 0 < x := by omega
    have a6 : decide (y < x) = false := by simp; omega
    go_enter Try.func22, Try.ntmps22
    go_wp2_with (at_builtin; with_reducible refine wp_app rfl (.tmp 37) (.tmp 38) _ rfl hap rfl (by simp [Act.eval, Act.put]) (by simp [Act.eval, Act.put]) ?_)
    go_ret2
    exact ⟨g', c', rfl, HG.out, HI.out.set h1 _, HF.out.step _ _ HG.out⟩

/-- What a call on a credit answers, and what becomes of it. -/
def GAny (c g k n : Nat) (r : Int) (f : Nat → Int) (t : Nat) (w : World) (e : Ending) (w' : World) : Prop := e = .returned (.int .i64 r) ∧ Cr w' c g k n f t ∧ Only (fun i => i = c ∨ i = g) w w'
/-- What the document's function answers. -/
def RAny (p n : Nat) (r : Int) (f : Nat → Int) (w : World) (e : Ending) (w' : World) : Prop := ∃ q k, e = .returned (.tuple #[.slice (some ⟨q, 0, none⟩) n k, .int .i64 r]) ∧ Ints w' q n k f ∧ Fresh w w'
structure OkF (n : Nat) (f : Nat → Int) (t : Nat) : Prop where
  n1 : 1 ≤ n
  n2 : n ≤ 64
  tl : t < n
  pos : ∀ j, j < n → 0 ≤ f j
  mx : sumN f n ≤ 2147483647
theorem Cr.ok {w : World} {c g k n t : Nat} {f : Nat → Int} (h : Cr w c g k n f t) : OkF n f t := ⟨h.n1, h.n2, h.tl, h.pos, h.mx⟩
theorem grant_pair {n t : Nat} {f : Nat → Int} (h : OkF n f t) (x : Int) : ∃ r f' t', (r = 0 ∧ t' = (t + 1) % n ∧ f' = grantF n f t x ∧ 1 ≤ x ∨ r ≠ 0 ∧ t' = t ∧ f' = f) ∧
    (∀ c g k w, Cr w c g k n f t → Calls Try.prog 12 #[.pointer (some ⟨c, 0, none⟩), .int .i64 x] w (GAny c g k n r f' t' w)) ∧
    (∀ p k T w, Ints w p n k f → T ≤ 1000000 → T % n = t → Calls Try.prog 21 #[.slice (some ⟨p, 0, none⟩) n k, .int .i64 ((T : Nat) : Int), .int .i64 x] w (RAny p n r f' w)) := by
  obtain ⟨n1, n2, tl, pos, mx⟩ := h
  by_cases h1 : 1 ≤ x ∧ x ≤ 2147483647
  · by_cases h2 : sumN f n + x ≤ 2147483647
    · refine ⟨0, grantF n f t x, (t + 1) % n, .inl ⟨rfl, rfl, rfl, h1.1⟩, fun c g k w h => (cr_grant_ok c g k n t f x w h h1.1 h1.2 h2).mono fun e w' ⟨a, b, d⟩ => ⟨a, b, d⟩, fun p k T w hI hT hTt => ?_⟩
      subst hTt
      exact (ref_grant_ok p n k T f x w hI n1 n2 hT pos h1.1 h1.2 h2).mono fun e w' ⟨q, k', a, b, d, l⟩ => ⟨q, k', a, d, l⟩
    · exact ⟨103, f, t, .inr ⟨by omega, rfl, rfl⟩, fun c g k w h => (cr_grant_flow c g k n t f x w h h1.1 h1.2 (by omega)).mono fun e w' ⟨a, b⟩ => ⟨a, by rw [← b]; exact h, by rw [← b]; exact Only.refl _ _⟩,
        fun p k T w hI hT _ => (ref_grant_flow p n k f T x w hI n2 pos mx h1.1 h1.2 (by omega)).mono fun e w' ⟨a, b⟩ => ⟨p, k, a, by rw [← b]; exact hI, by rw [← b]; exact Fresh.refl _⟩⟩
  · exact ⟨11, f, t, .inr ⟨by omega, rfl, rfl⟩, fun c g k w h => (cr_grant_range c x w h1).mono fun e w' ⟨a, b⟩ => ⟨a, by rw [← b]; exact h, by rw [← b]; exact Only.refl _ _⟩,
      fun p k T w hI hT _ => (ref_grant_range _ T x w h1).mono fun e w' ⟨a, b⟩ => ⟨p, k, a, by rw [← b]; exact hI, by rw [← b]; exact Fresh.refl _⟩⟩
theorem spend_pair {n t : Nat} {f : Nat → Int} (h : OkF n f t) (i x : Int) : ∃ r f', (r = 0 ∧ 0 ≤ i ∧ i < n ∧ 0 ≤ x ∧ x ≤ f i.toNat ∧ f' = updN f i.toNat (f i.toNat - x) ∨ r ≠ 0 ∧ f' = f) ∧
    (∀ c g k w, Cr w c g k n f t → Calls Try.prog 13 #[.pointer (some ⟨c, 0, none⟩), .int .i64 i, .int .i64 x] w (GAny c g k n r f' t w)) ∧
    (∀ p k w, Ints w p n k f → Calls Try.prog 22 #[.slice (some ⟨p, 0, none⟩) n k, .int .i64 i, .int .i64 x] w (RAny p n r f' w)) := by
  obtain ⟨n1, n2, tl, pos, mx⟩ := h
  by_cases h1 : 0 ≤ i ∧ i < n ∧ 0 ≤ x ∧ x ≤ 2147483647
  · obtain ⟨h1, h2, h3, h4⟩ := h1
    obtain ⟨j, rfl⟩ : ∃ j : Nat, i = (j : Int) := ⟨i.toNat, by omega⟩
    have hj : j < n := by omega
    have hp := pos j hj
    have hm := sumN_ge pos hj
    simp only [Int.toNat_natCast]
    by_cases h5 : x ≤ f j
    · exact ⟨0, updN f j (f j - x), .inl ⟨rfl, h1, h2, h3, h5, rfl⟩, fun c g k w h => (cr_spend_ok c g k n t j f x w h hj h3 h4 h5).mono fun e w' ⟨a, b, d⟩ => ⟨a, b, d⟩,
        fun p k w hI => (ref_spend_ok p n k j f x w hI n2 hj h3 h4 h5 (by omega)).mono fun e w' ⟨q, k', a, b, d, l⟩ => ⟨q, k', a, d, l⟩⟩
    · exact ⟨15, f, .inr ⟨by omega, rfl⟩, fun c g k w h => (cr_spend_full c g k n t j f x w h hj (by omega) h4 (by omega)).mono fun e w' ⟨a, b⟩ => ⟨a, h.fresh b, Only.of_fresh b⟩,
        fun p k w hI => (ref_spend_full p n k j f x w hI n2 hj (by omega) h4 (by omega)).mono fun e w' ⟨a, b⟩ => ⟨p, k, a, by rw [← b]; exact hI, by rw [← b]; exact Fresh.refl _⟩⟩
  · exact ⟨11, f, .inr ⟨by omega, rfl⟩, fun c g k w h => (cr_spend_range c g k n t f i x w h h1).mono fun e w' ⟨a, b⟩ => ⟨a, h.fresh b, Only.of_fresh b⟩,
      fun p k w hI => (ref_spend_range p n k i x w h1 n2).mono fun e w' ⟨a, b⟩ => ⟨p, k, a, by rw [← b]; exact hI, by rw [← b]; exact Fresh.refl _⟩⟩

theorem aw_new (w : World) : Calls Try.prog 8 #[.int .i64 3] w (NewPost 3 w) := cr_new_yes 3 w (by omega) (by omega)
def awG (r : Int) (f : Nat → Int) (t : Nat) (c g k : Nat) (w : World) (e : Ending) (w' : World) : Prop := e = .returned (.int .i64 r) ∧ Cr w' c g k 3 f t ∧ Only (fun i => i = c ∨ i = g) w w'
def awF1 : Nat → Int := grantF 3 (part 65535 3) 0 4
def awF2 : Nat → Int := grantF 3 awF1 1 4
def awF3 : Nat → Int := updN awF2 1 (awF2 1 - 5)
theorem aw_g1 (c g k : Nat) (w : World) (h : Cr w c g k 3 (part 65535 3) 0) : Calls Try.prog 12 #[.pointer (some ⟨c, 0, none⟩), .int .i64 4] w (awG 0 awF1 1 c g k w) :=
  (cr_grant_ok c g k 3 0 _ 4 w h (by omega) (by omega) (by decide)).mono fun _ _ h => h
theorem aw_g2 (c g k : Nat) (w : World) (h : Cr w c g k 3 awF1 1) : Calls Try.prog 12 #[.pointer (some ⟨c, 0, none⟩), .int .i64 4] w (awG 0 awF2 2 c g k w) :=
  (cr_grant_ok c g k 3 1 _ 4 w h (by omega) (by omega) (by decide)).mono fun _ _ h => h
theorem aw_s1 (c g k : Nat) (w : World) (h : Cr w c g k 3 awF2 2) : Calls Try.prog 13 #[.pointer (some ⟨c, 0, none⟩), .int .i64 0, .int .i64 30000] w (awG 15 awF2 2 c g k w) :=
  (cr_spend_full c g k 3 2 0 _ 30000 w h (by omega) (by omega) (by omega) (by decide)).mono fun _ _ ⟨a, b⟩ => ⟨a, h.fresh b, Only.of_fresh b⟩
theorem aw_s2 (c g k : Nat) (w : World) (h : Cr w c g k 3 awF2 2) : Calls Try.prog 13 #[.pointer (some ⟨c, 0, none⟩), .int .i64 1, .int .i64 5] w (awG 0 awF3 2 c g k w) :=
  (cr_spend_ok c g k 3 2 1 _ 5 w h (by omega) (by omega) (by omega) (by decide)).mono fun _ _ h => h
theorem aw_l0 (c g k : Nat) (w : World) (h : Cr w c g k 3 awF3 2) : Calls Try.prog 14 #[.pointer (some ⟨c, 0, none⟩), .int .i64 0] w fun e w' => e = .returned (.int .i64 21848) ∧ Fresh w w' :=
  (cr_left_yes c g k 3 2 0 _ w h (by omega)).mono fun _ _ ⟨a, b⟩ => ⟨by rw [a, show awF3 0 = 21848 by decide], b⟩
theorem aw_l1 (c g k : Nat) (w : World) (h : Cr w c g k 3 awF3 2) : Calls Try.prog 14 #[.pointer (some ⟨c, 0, none⟩), .int .i64 1] w fun e w' => e = .returned (.int .i64 21843) ∧ Fresh w w' :=
  (cr_left_yes c g k 3 2 1 _ w h (by omega)).mono fun _ _ ⟨a, b⟩ => ⟨by rw [a, show awF3 1 = 21843 by decide], b⟩
theorem aw_l3 (c g k : Nat) (w : World) (h : Cr w c g k 3 awF3 2) : Calls Try.prog 14 #[.pointer (some ⟨c, 0, none⟩), .int .i64 3] w fun e w' => e = .returned (.int .i64 0) ∧ Fresh w w' :=
  (cr_left_no c g k 3 2 _ 3 w h (by omega)).mono fun _ _ h => h
theorem aw_wh (c g k : Nat) (w : World) (h : Cr w c g k 3 awF3 2) : Calls Try.prog 17 #[.pointer (some ⟨c, 0, none⟩)] w fun e w' => e = .returned (.int .i64 65538) ∧ Fresh w w' :=
  (cr_whole c g k 3 2 _ w h).mono fun _ _ ⟨a, b⟩ => ⟨by rw [a, show sumN awF3 3 = 65538 by decide], b⟩
set_option maxHeartbeats 1600000 in
theorem cr_awake (w : World) : Calls Try.prog 7 #[] w fun e w' => e = .returned (.bool true) ∧ Fresh w w' := by
  go_enter Try.func7, Try.ntmps7
  go_wp2_with fail
  with_reducible refine (aw_new _).mono ?_
  rintro e w1 ⟨c, g, k, rfl, hc, hg, hcr, hf⟩
  have HC := Lib.hid (And.intro hc hg)
  have HF := Lib.hid hf
  have HCR := Lib.hid hcr
  clear hc hg hcr hf
  go_wp2_with fail
  with_reducible refine (aw_g1 c g k _ HCR.out).mono ?_
  rintro e w2 ⟨rfl, hcr, hon⟩
  have HCR2 := Lib.hid hcr
  have HON2 := Lib.hid hon
  clear hcr hon
  go_wp2_with fail
  with_reducible refine (aw_g2 c g k _ HCR2.out).mono ?_
  rintro e w3 ⟨rfl, hcr, hon⟩
  have HCR3 := Lib.hid hcr
  have HON3 := Lib.hid (HON2.out.trans hon)
  clear hcr hon
  go_wp2_with fail
  with_reducible refine (aw_s1 c g k _ HCR3.out).mono ?_
  rintro e w4 ⟨rfl, hcr, hon⟩
  have HCR4 := Lib.hid hcr
  have HON4 := Lib.hid (HON3.out.trans hon)
  clear hcr hon
  go_wp2_with fail
  with_reducible refine (aw_s2 c g k _ HCR4.out).mono ?_
  rintro e w5 ⟨rfl, hcr, hon⟩
  have HCR5 := Lib.hid hcr
  have HON5 := Lib.hid (HON4.out.trans hon)
  clear hcr hon
  go_wp2_with fail
  with_reducible refine (aw_l0 c g k _ HCR5.out).mono ?_
  rintro e w6 ⟨rfl, hf6⟩
  have HCR6 := Lib.hid (HCR5.out.fresh hf6)
  have HON6 := Lib.hid (HON5.out.freshS hf6)
  clear hf6
  go_wp2_with fail
  with_reducible refine (aw_l1 c g k _ HCR6.out).mono ?_
  rintro e w7 ⟨rfl, hf7⟩
  have HCR7 := Lib.hid (HCR6.out.fresh hf7)
  have HON7 := Lib.hid (HON6.out.freshS hf7)
  clear hf7
  go_wp2_with fail
  with_reducible refine (aw_wh c g k _ HCR7.out).mono ?_
  rintro e w8 ⟨rfl, hf8⟩
  have HCR8 := Lib.hid (HCR7.out.fresh hf8)
  have HON8 := Lib.hid (HON7.out.freshS hf8)
  clear hf8
  go_wp2_with fail
  with_reducible refine (aw_l3 c g k _ HCR8.out).mono ?_
  rintro e w9 ⟨rfl, hf9⟩
  have HON9 := Lib.hid (HON8.out.freshS hf9)
  clear hf9
  go_wp2_with fail
  go_ret
  exact ⟨rfl, Only.fresh ((Only.of_fresh HF.out).trans (HON9.out.mono (fun i e => e))) (fun i hi e => by have := HC.out; omega)⟩
end Go.Proofs.Ytnnciekbmapilaa
