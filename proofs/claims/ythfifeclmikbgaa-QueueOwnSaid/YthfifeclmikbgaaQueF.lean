/-
  The document's Put.
-/
import Derived.Test.YthfifeclmikbgaaQueE
namespace Go.Proofs.Ythfifeclmikbgaa
set_option linter.unusedVariables false
set_option linter.unusedSimpArgs false
open Go.RowKit
/-- A list of the document's items. -/
structure LS (w : World) (A : Option Addr) (c : Nat) (l : List SI) : Prop where
  le : l.length ≤ c
  max : c ≤ maxLen
  rows : Many siD 3 w A l
  ty : 0 < l.length → ∃ g o cs, A = some ⟨g, o, none⟩ ∧ Blk w g 45 cs
theorem LS.fresh {w w' : World} {A : Option Addr} {c : Nat} {l : List SI} (h : LS w A c l) (hf : Fresh w w') : LS w' A c l := ⟨h.le, h.max, h.rows.fresh hf, fun hn => by
  obtain ⟨g, o, cs, e, hb⟩ := h.ty hn
  exact ⟨g, o, cs, e, hb.fresh hf⟩⟩
theorem LS.only {S : Nat → Prop} {w w' : World} {A : Option Addr} {c : Nat} {l : List SI} (h : LS w A c l) (ho : Only S w w') (hs : ∀ g cs, Blk w g 45 cs → ¬ S g) : LS w' A c l := ⟨h.le, h.max, fun hn => by
  obtain ⟨g, o, cs, e, hb⟩ := h.ty hn
  obtain ⟨b, o', e', hlt, hc⟩ := h.rows hn
  rw [e] at e'
  injection e' with e'
  injection e' with e1 e2
  subst e1 e2
  have := ho.size
  exact ⟨g, o, e, by omega, fun k hk j hj => (ho.cell (p := ⟨g, _, none⟩) hlt (hs g cs hb)).trans (hc k hk j hj)⟩, fun hn => by
  obtain ⟨g, o, cs, e, hb⟩ := h.ty hn
  exact ⟨g, o, cs, e, hb.only ho (hs g cs hb)⟩⟩
theorem LS.nil (w : World) : LS w none 0 [] := ⟨Nat.le_refl _, by simp [maxLen], fun h => absurd h (by simp), fun h => absurd h (by simp)⟩
theorem LS.of {w : World} {base n c : Nat} {A : Option Addr} {l : List SI} (h : Own w base 45 3 (.slice A n c) n (rowS l)) (hn : l.length = n) : LS w A c l := by
  obtain ⟨A', c', e, g1, g2, _⟩ := h.slice
  injection e with e1 e2 e3
  refine ⟨by rw [hn, e3]; exact g1, by rw [e3]; exact g2, own_manyS h, fun h0 => ?_⟩
  obtain ⟨g, e, _, _, _, _, cur, hB⟩ := h.pos (by omega)
  exact ⟨g, 0, cur, e, hB⟩
def RPutP (A : Option Addr) (c : Nat) (l : List SI) (by_ it : Int) (x : SI) (w : World) (e : Ending) (w' : World) : Prop :=
  Fresh w w' ∧ ((((l.length : Int) ≥ it ∨ by_ < (sz l : Int) + (siz x : Int)) ∧ e = .returned (.tuple #[.slice A l.length c, .int .i64 1])) ∨
    (((l.length : Int) < it ∧ (sz l : Int) + (siz x : Int) ≤ by_) ∧ ∃ A' c', e = .returned (.tuple #[.slice A' (l.length + 1) c', .int .i64 0]) ∧ LS w' A' c' (l ++ [x])))
set_option maxRecDepth 100000 in
set_option maxHeartbeats 3200000 in
theorem rs_put (A : Option Addr) (c : Nat) (l : List SI) (by_ it : Int) (x : SI) (w : World) (h : LS w A c l) (hl : l.length ≤ 10000) (hz : sz l + siz x ≤ 100000000) (hy : by_ ≤ 1048576) (hi : it ≤ 4096) :
    Calls Try.prog 24 #[.slice A l.length c, .int .i64 by_, .int .i64 it, saidV x] w (RPutP A c l by_ it x w) := by
  have H := Lib.hid h
  have HZ := Lib.hid hz
  have HLL := Lib.hid hl
  have hle := h.le
  have hmx := h.max
  simp only [maxLen] at hmx
  obtain ⟨n, hn⟩ : ∃ n, l.length = n := ⟨_, rfl⟩
  have HN := Lib.hid hn
  have HSZ := Lib.hid (fun W (hw : Fresh w W) => rs_size A c l W ((h.fresh hw).rows) (by omega) (by omega))
  rw [hn] at HSZ hle hl ⊢
  obtain ⟨z, hzz⟩ : ∃ z, sz l = z := ⟨_, rfl⟩
  have HZZ := Lib.hid hzz
  rw [hzz] at HSZ hz
  obtain ⟨zx, hzx⟩ : ∃ zx, siz x = zx := ⟨_, rfl⟩
  have HZX := Lib.hid hzx
  rw [hzx] at hz
  have hwz : IntKind.i64.wrap ((z : Int) + (zx : Int)) = (z : Int) + (zx : Int) := by rw [IntKind.wrap_i64]; omega
  unfold saidV
  clear h hn hzz hzx
  go_enter Try.func24, Try.ntmps24
  go_upto_region 2 with fail
  refine wp_gen (fun W => Fresh w W ∧ Blk W w.heap.size 45 #[.int .i64 x.1, .string (strB x.2.1), .string (strB x.2.2)] ∧ Blk W (w.heap.size + 1) 45 #[.int .i64 x.1, .string (strB x.2.1), .string (strB x.2.2)]) ⟨(Fresh.alloc _ _).allocS _, (Blk.new _ _ _).alloc _, Blk.mkAt (by simp)⟩ ?_
  rintro W ⟨hf0, hb0, hb1⟩
  have HF0 := Lib.hid hf0
  have HB0 := Lib.hid hb0
  have HON : Hid (∀ W2, Fresh W W2 → Calls Try.prog 13 #[.slice (some ⟨w.heap.size + 1, 0, none⟩) 1 1] W2 fun e w' => e = .returned (.int .i64 (zx : Int)) ∧ Fresh W2 w') := Lib.hid (fun W2 hw => by
    have hm1 : Many siD 3 W2 (some ⟨w.heap.size + 1, 0, none⟩) [x] := fun _ => ⟨_, 0, rfl, (hb1.fresh hw).lt, fun k hk j hj => by
      obtain rfl : k = 0 := by simpa using hk
      rw [(hb1.fresh hw).cell]
      have hj' : j = 0 ∨ j = 1 ∨ j = 2 := by omega
      rcases hj' with rfl | rfl | rfl <;> rfl⟩
    have h := rs_size (some ⟨w.heap.size + 1, 0, none⟩) 1 [x] W2 hm1 (by simp) (by have := HZ.out; simp [sz]; omega)
    have e : sz [x] = zx := by simp [sz, HZX.out]
    rw [e] at h
    exact h)
  clear hf0 hb0 hb1
  by_cases hit : it ≤ (n : Int)
  · go_wp2
    go_ret2
    exact ⟨HF0.out, .inl ⟨.inl (by rw [HN.out]; exact hit), by rw [HN.out]; rfl⟩⟩
  · go_wp2_with fail
    with_reducible refine (HSZ.out _ HF0.out).mono ?_
    rintro e w2 ⟨rfl, hf2⟩
    have HF2 := Lib.hid hf2
    clear hf2
    go_wp2_with fail
    with_reducible refine (HON.out _ HF2.out).mono ?_
    rintro e w3 ⟨rfl, hf3⟩
    have HF3 := Lib.hid (HF2.out.trans hf3)
    clear hf3
    by_cases hbig : by_ < (z : Int) + (zx : Int)
    · go_wp2
      go_ret2
      exact ⟨HF0.out.trans HF3.out, .inl ⟨.inr (by rw [HZZ.out, HZX.out]; exact hbig), by rw [HN.out]; rfl⟩⟩
    · have HNB := Lib.hid hbig
      have HNI := Lib.hid hit
      obtain ⟨A1, c1, w4, hap1, ho4, hf4⟩ := si_more ((H.out.fresh (HF0.out.trans HF3.out)).rows) HN.out (by omega) hle
      obtain ⟨A2, c2, w5, hap2, ho5, hon5⟩ := si_push x n ho4 hf4.size (by omega)
      have hb4 := (HB0.out.fresh HF3.out).fresh hf4
      obtain ⟨c0, c1', c2'⟩ := hb4.c3
      have hbl := hb4.lt
      have HFIN : Hid (Fresh w w5 ∧ LS w5 A2 c2 (l ++ [x])) := Lib.hid ⟨Below.trans ((HF0.out.trans HF3.out).trans hf4) (Only.below hon5 ((HF0.out.trans HF3.out).trans hf4).size (fun k e => by
        have := (Own.lt ho4 _ e).1
        have := (HF0.out.trans HF3.out).size
        omega)), by
        exact LS.of ho5 (by rw [List.length_append, HN.out]; rfl)⟩
      clear ho4 hf4 ho5 hon5 hb4 hwz
      go_wp2_with (first | (at_builtin; with_reducible refine wp_app rfl (.tmp 28) (.tmp 29) _ rfl hap1 rfl rfl rfl ?_) | (at_builtin; with_reducible refine wp_app rfl (.tmp 31) (.tmp 33) _ rfl hap2 rfl rfl rfl ?_))
      go_ret2
      exact ⟨HFIN.out.1, .inr ⟨⟨by rw [HN.out]; omega, by rw [HZZ.out, HZX.out]; omega⟩, A2, c2, by rw [HN.out]; rfl, HFIN.out.2⟩⟩
end Go.Proofs.Ythfifeclmikbgaa
