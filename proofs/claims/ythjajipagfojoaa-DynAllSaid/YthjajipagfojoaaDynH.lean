/-
  The law DynPlays.
-/
import Derived.Test.YthjajipagfojoaaDynG
namespace Go.Proofs.Ythjajipagfojoaa
set_option linter.unusedVariables false
set_option linter.unusedSimpArgs false
open Go.RowKit
/-- A table made within a call that began at w0, and the document's list. -/
structure Sd (w0 w : World) (p : Nat) (v : Value) (A : Option Addr) (c : Nat) (fs : List FldT) (lim : Int) : Prop where
  sd : Side w w0.heap.size p v A c fs lim
  hp : w0.heap.size ≤ p
  hv : ∀ k, v.ownBlock = some k → w0.heap.size ≤ k
  fr : Fresh w0 w
theorem Sd.fresh {w0 w w' : World} {p c : Nat} {v : Value} {A : Option Addr} {fs : List FldT} {lim : Int} (h : Sd w0 w p v A c fs lim) (hf : Fresh w w') : Sd w0 w' p v A c fs lim := ⟨h.sd.fresh hf, h.hp, h.hv, h.fr.trans hf⟩
def SdP (w0 : World) (p : Nat) (fs : List FldT) (lim : Int) (e : Ending) (w' : World) : Prop :=
  ∃ A' c' v', e = .returned (.tuple #[.slice A' fs.length c', .int .i64 lim, .bool true]) ∧ Sd w0 w' p v' A' c' fs lim
theorem sd_step {w0 w : World} {p c : Nat} {v : Value} {A : Option Addr} {fs : List FldT} {lim : Int} (o : OpT) (h : Sd w0 w p v A c fs lim) (hf : fz o.f ≤ 1000000000000000) :
    Calls Try.prog 11 #[.pointer (some ⟨p, 0, none⟩), .slice A fs.length c, .int .i64 lim, .agg #[.int .i64 o.k, .int .i64 o.n, .string o.f.1, .string o.f.2]] w (SdP w0 p (stepF fs lim o).1 (stepF fs lim o).2) := by
  refine (step_any o h.sd hf).mono ?_
  rintro e w' ⟨A', c', v', rfl, hs, hv, ho⟩
  have hsz := h.fr.size
  refine ⟨A', c', v', rfl, hs, h.hp, fun k hk => ?_, Below.trans h.fr (Only.below ho hsz fun k e => ?_)⟩
  · rcases hv k hk with e | e
    · exact h.hv k e
    · omega
  · rcases e with rfl | e
    · exact h.hp
    · exact h.hv k e
theorem sd_new (lim : Int) (h0 : 0 ≤ lim) (h1 : lim ≤ 65536) (w0 w : World) (hf : Fresh w0 w) : Calls Try.prog 10 #[.int .i64 lim] w fun e w' => ∃ p, e = .returned (.tuple #[.pointer (some ⟨p, 0, none⟩), .int .i64 0]) ∧ Sd w0 w' p (.slice none 0 0) none 0 [] lim := by
  refine (dy_new lim h0 h1 w).mono ?_
  rintro e w' ⟨p, he, hp, ht, hf2⟩
  have := hf.size
  have := hf2.size
  exact ⟨p, he, ⟨ht _, LiAt.nil _, by omega, h0, h1, by simpa [tz] using h0⟩, by omega, fun k hk => (by cases hk), hf.trans hf2⟩
section
variable {w : World}
set_option maxRecDepth 100000 in
set_option maxHeartbeats 3200000 in
theorem plays_long (lim : Int) (s : OpsV) (h : s.Ok w) (hb : lim < 0 ∨ 65536 < lim) : Calls Try.prog 3 #[.int .i64 lim, s.v] w (LwP w) := by
  have HSM := Lib.hid (small_any s w h)
  obtain ⟨A, c, xs⟩ := s
  simp only [OpsV.v] at HSM ⊢
  clear h
  rcases hb with hb | hb
  · go_enter Try.func3, Try.ntmps3
    go_wp2_with fail
    with_reducible refine HSM.out.mono ?_
    rintro e w1 ⟨r, rfl, hf1⟩
    have HF1 := Lib.hid hf1
    clear hf1
    cases r
    all_goals
      go_wp2_with fail
      with_reducible refine (dy_awake _).mono ?_
      rintro e w2 ⟨rfl, hf2⟩
      have HF2 := Lib.hid (HF1.out.trans hf2)
      clear hf2
      go_wp2
      go_ret
      exact ⟨rfl, HF2.out⟩
  · have h0 : ¬ lim < 0 := by omega
    go_enter Try.func3, Try.ntmps3
    go_wp2_with fail
    with_reducible refine HSM.out.mono ?_
    rintro e w1 ⟨r, rfl, hf1⟩
    have HF1 := Lib.hid hf1
    clear hf1
    cases r
    all_goals
      go_wp2_with fail
      with_reducible refine (dy_awake _).mono ?_
      rintro e w2 ⟨rfl, hf2⟩
      have HF2 := Lib.hid (HF1.out.trans hf2)
      clear hf2
      go_wp2
      go_ret
      exact ⟨rfl, HF2.out⟩
set_option maxRecDepth 100000 in
set_option maxHeartbeats 6400000 in
theorem plays_ok (lim : Int) (s : OpsV) (h : s.Ok w) (h0 : 0 ≤ lim) (h1 : lim ≤ 65536) : Calls Try.prog 3 #[.int .i64 lim, s.v] w (LwP w) := by
  have HSM := Lib.hid (small_any s w h)
  obtain ⟨A, c, xs⟩ := s
  have H := Lib.hid h
  have hle := h.le
  have hmx := h.max
  simp only at hle hmx
  simp only [maxLen] at hmx
  simp only [OpsV.v] at HSM ⊢
  obtain ⟨n, hn⟩ : ∃ n, xs.length = n := ⟨_, rfl⟩
  have HN := Lib.hid hn
  rw [hn] at HSM hle ⊢
  clear h hn
  have n0 : ¬ lim < 0 := by omega
  have n1 : ¬ 65536 < lim := by omega
  go_enter Try.func3, Try.ntmps3
  go_wp2_with fail
  with_reducible refine HSM.out.mono ?_
  rintro e w1 ⟨r, rfl, hf1⟩
  have HF1 := Lib.hid hf1
  clear hf1
  cases r
  · go_wp2_with fail
    with_reducible refine (dy_awake _).mono ?_
    rintro e w2 ⟨rfl, hf2⟩
    have HF2 := Lib.hid (HF1.out.trans hf2)
    clear hf2
    go_wp2
    go_ret
    exact ⟨rfl, HF2.out⟩
  · go_wp2_with fail
    with_reducible refine (sd_new lim h0 h1 w _ HF1.out).mono ?_
    rintro e w2 ⟨p, rfl, hs⟩
    have HS := Lib.hid hs
    clear hs
    go_wp2_with fail
    clear n0 n1 h0 h1
    go_loopw [0, 7, 36] (fun l x i wr => ∃ (k : Nat) (v : Value) (A' : Option Addr) (c' : Nat) (fs : List FldT) (lm : Int), k ≤ n ∧ i = .int .i64 (k : Int) ∧ l = .int .i64 lm ∧ x = .slice A' fs.length c' ∧ Sd w wr p v A' c' fs lm) (fun _ _ i _ => n - (intOf i).toNat)
    case atStart => exact ⟨0, _, none, 0, [], lim, by omega, rfl, rfl, rfl, HS.out⟩
    case round =>
      obtain ⟨k, v, A', c', fs, lm, hk, rfl, rfl, rfl, hs⟩ := hrel
      have HSD := Lib.hid hs
      by_cases hlt : k < n
      · have hlt' : (k : Int) < (n : Int) := by omega
        obtain ⟨x, hxk⟩ : ∃ x, xs[k]? = some x := ⟨_, List.getElem?_eq_getElem (by rw [HN.out]; exact hlt)⟩
        have hx1 := (H.out.ok x (List.mem_of_getElem? hxk)).f1
        obtain ⟨b, o, hA, hb, y0, y1, y2, y3⟩ := (H.out.rows.fresh hs.fr).at4 k x hxk
        simp only at hA
        subst hA
        have HST := Lib.hid (fun W (hw : Fresh wr W) => sd_step x (HSD.out.fresh hw) hx1)
        obtain ⟨xk, xn, xf, xg⟩ := x
        simp only at y0 y1 y2 y3 HST
        clear hs hxk hx1
        generalize hfs : (stepF fs lm ⟨xk, xn, (xf, xg)⟩).1 = fs2 at HST
        generalize hlm : (stepF fs lm ⟨xk, xn, (xf, xg)⟩).2 = lm2 at HST
        clear hfs hlm
        go_upto_region 11 with fail
        refine wp_gen (fun W => Fresh wr W ∧ Blk W wr.heap.size 33 #[.int .i64 xk, .int .i64 xn, .string xf, .string xg]) ⟨Fresh.alloc _ _, Blk.new _ _ _⟩ ?_
        rintro W ⟨hfW, hbW⟩
        have c0 := hbW.cell 0
        have c1 := hbW.cell 1
        have c2 := hbW.cell 2
        have c3 := hbW.cell 3
        have HX := Lib.hid (HST.out _ hfW)
        clear hfW hbW y0 y1 y2 y3 hb HST
        simp at c0 c1 c2 c3
        generalize fs.length = nf at *
        go_wp2_with fail
        with_reducible refine HX.out.mono ?_
        rintro e w3 ⟨A3, c3', v3, rfl, hs3⟩
        have HS3 := Lib.hid hs3
        have HSAME := Lib.hid (same_ok hs3.sd)
        clear hs3
        go_wp2_with fail
        with_reducible refine HSAME.out.mono ?_
        rintro e w4 ⟨rfl, hf4⟩
        have HF4 := Lib.hid (HS3.out.fresh hf4)
        clear hf4
        go_wp2_with fail
        go_roundw
        case rel => exact ⟨k + 1, v3, A3, c3', fs2, lm2, by omega, by go_num, rfl, rfl, HF4.out⟩
        case measure => simp [intOf]; omega
      · obtain rfl : k = n := by omega
        clear hs
        go_wp2_with fail
        with_reducible refine (dy_awake _).mono ?_
        rintro e w5 ⟨rfl, hf5⟩
        have HF5 := Lib.hid (HSD.out.fr.trans hf5)
        clear hf5
        go_wp2
        go_ret
        exact ⟨rfl, HF5.out⟩
end
theorem DynPlays_any (lim : Int) (s : OpsV) (w : World) (_ : -9223372036854775808 ≤ lim ∧ lim ≤ 9223372036854775807) (hs : s.Ok w) : Calls Try.prog 3 #[.int .i64 lim, s.v] w fun e w' => e = .returned (.bool true) ∧ Below w.heap.size w w' := by
  show Calls _ _ _ _ (LwP w)
  by_cases h0 : lim < 0
  · exact plays_long lim s hs (.inl h0)
  · by_cases h1 : 65536 < lim
    · exact plays_long lim s hs (.inr h1)
    · exact plays_ok lim s hs (by omega) (by omega)
end Go.Proofs.Ythjajipagfojoaa
