/-
  The law DecodePlays.
-/
import Derived.Test.YtffdhegflnhfjaaDecK3
import Derived.Test.YtffdhegflnhfjaaDecQ
namespace Go.Proofs.Ytffdhegflnhfjaa
set_option maxRecDepth 100000
set_option linter.unusedVariables false
set_option linter.unusedSimpArgs false
open Go.RowKit
def st7 (A : Option Addr) (n c : Nat) (lim most bound : Int) (dead : Bool) : Value := .agg #[.slice A n c, .int .i64 lim, .int .i64 most, .int .i64 bound, .bool dead]
theorem rf7_dead (A : Option Addr) (c : Nat) (fs : List FldT) (lim most bound : Int) (l : List UInt8) (w : World) (h : Li7 w A c fs) :
    Calls Try.prog 12 #[.agg #[.slice A fs.length c, .int .i64 lim, .int .i64 most, .int .i64 bound, .bool true], .string (strB l)] w (Ref7P w most bound (25, [], fs, lim)) := by
  have HFIN : Hid (∀ W, Fresh w W → Ref7P w most bound (25, [], fs, lim) (.returned (.tuple #[.agg #[.slice A fs.length c, .int .i64 lim, .int .i64 most, .int .i64 bound, .bool true], .slice none 0 0, .int .i64 25])) W) := Lib.hid (fun W hf => ⟨A, c, none, 0, by simp, h.fresh hf, Lnr.nil _ _, hf⟩)
  generalize Ref7P w most bound (25, [], fs, lim) = BP at *
  generalize strB l = S at *
  generalize fs.length = n at *
  clear h
  have hb0 : Blk ((w.alloc (.cells #[.slice A n c, .int .i64 lim, .int .i64 most, .int .i64 bound, .bool true] 33)).alloc (.cells #[.slice none 0 0, .int .i64 0, .int .i64 0, .int .i64 0, .bool false] 33)) w.heap.size 33 #[.slice A n c, .int .i64 lim, .int .i64 most, .int .i64 bound, .bool true] := (Blk.new _ _ _).alloc _
  have hb1 : Blk ((w.alloc (.cells #[.slice A n c, .int .i64 lim, .int .i64 most, .int .i64 bound, .bool true] 33)).alloc (.cells #[.slice none 0 0, .int .i64 0, .int .i64 0, .int .i64 0, .bool false] 33)) (w.heap.size + 1) 33 #[.slice none 0 0, .int .i64 0, .int .i64 0, .int .i64 0, .bool false] := by simpa using Blk.new (w.alloc (.cells #[.slice A n c, .int .i64 lim, .int .i64 most, .int .i64 bound, .bool true] 33)) 33 #[.slice none 0 0, .int .i64 0, .int .i64 0, .int .i64 0, .bool false]
  go_enter Try.func12, Try.ntmps12
  obtain ⟨QB, hQB⟩ : ∃ QB, bodyPost Try.prog Try.f12 BP = QB := ⟨_, rfl⟩
  have HQB := Lib.hid hQB
  rw [hQB]
  clear hQB
  go_upto_region 1 with fail
  refine wp_gen (fun W => Blk W w.heap.size 33 #[.slice A n c, .int .i64 lim, .int .i64 most, .int .i64 bound, .bool true] ∧ Blk W (w.heap.size + 1) 33 #[.slice none 0 0, .int .i64 0, .int .i64 0, .int .i64 0, .bool false] ∧ Fresh w W) ⟨hb0, hb1, (Fresh.alloc _ _).allocS _⟩ ?_
  rintro W ⟨g0, g1, hf⟩
  obtain ⟨p0, p1, p2, p3, p4⟩ := g0.c5
  obtain ⟨o0, o1, o2, o3, o4⟩ := g1.c5
  have z0 := g1.frozen 0
  have z1 := g1.frozen 1
  have z2 := g1.frozen 2
  have z3 := g1.frozen 3
  have z4 := g1.frozen 4
  have HG1 := Lib.hid g1
  have HF := Lib.hid hf
  clear g0 g1 hf hb0 hb1
  generalize hs0 : w.heap.size = s0 at *
  go_wp2
  refine wx_gen (fun W' => Blk W' (s0 + 1) 33 #[.slice A n c, .int .i64 lim, .int .i64 most, .int .i64 bound, .bool true] ∧ Only (fun k => k = s0 ∨ k = s0 + 1) W W') (d7_out HG1.out (Only.of_fresh (Fresh.refl _))) ?_
  rintro W7 ⟨hb7, ho7⟩
  obtain ⟨q0, q1, q2, q3, q4⟩ := hb7.c5
  rw [← HQB.out]
  exact bodyPost_ret (v := .tuple #[.agg #[.slice A n c, .int .i64 lim, .int .i64 most, .int .i64 bound, .bool true], .slice none 0 0, .int .i64 25]) (by simp [results, Try.results12, go_sem, q0, q1, q2, q3, q4]) rfl (HFIN.out _ (Below.trans HF.out (Only.below ho7 HF.out.size (fun k e => by omega))))
theorem rf7_any (A : Option Addr) (c : Nat) (fs : List FldT) (lim most bound : Int) (dead : Bool) (l : List UInt8) (w : World) (h : Li7 w A c fs) (h0 : 0 ≤ lim) (h1 : lim ≤ most) (hmx : most ≤ 65536) (htz : (tz fs : Int) ≤ lim) (hb0 : 0 ≤ bound) (hb1 : bound ≤ 16384) (hl : l.length ≤ 10000000) :
    Calls Try.prog 12 #[.agg #[.slice A fs.length c, .int .i64 lim, .int .i64 most, .int .i64 bound, .bool dead], .string (strB l)] w (Ref7P w most bound (rd7 most bound dead fs lim l)) := by
  cases dead with
  | true => exact rf7_dead A c fs lim most bound l w h
  | false => exact rf7_decode A c fs lim most bound l w h h0 h1 hmx htz hb0 hb1 hl
/-- A decoder and the document's state, which lies in block s. -/
structure P7 (w0 w : World) (d p s : Nat) (v : Value) (A : Option Addr) (c : Nat) (fs : List FldT) (lim most bound : Int) (dead : Bool) : Prop where
  dec : S7 w0 w d p v fs lim most bound dead
  li : Li7 w A c fs
  st : Blk w s 33 #[.slice A fs.length c, .int .i64 lim, .int .i64 most, .int .i64 bound, .bool dead]
  hs : w0.heap.size ≤ s
theorem P7.fresh {w0 w w' : World} {d p s c : Nat} {v : Value} {A : Option Addr} {fs : List FldT} {lim most bound : Int} {dead : Bool} (h : P7 w0 w d p s v A c fs lim most bound dead) (hf : Fresh w w') : P7 w0 w' d p s v A c fs lim most bound dead := ⟨h.dec.fresh hf, h.li.fresh hf, h.st.fresh hf, h.hs⟩
/-- The state's block gets what the document's Decode tells. -/
theorem P7.next {w0 w w2 : World} {d p s c c2 : Nat} {v v' : Value} {A A2 : Option Addr} {fs gs : List FldT} {lim lm most bound : Int} {dead dd : Bool} (h : P7 w0 w d p s v A c fs lim most bound dead) (hd : S7 w0 w2 d p v' gs lm most bound dd) (hl : Li7 w2 A2 c2 gs) (hst : Blk w2 s 33 #[.slice A fs.length c, .int .i64 lim, .int .i64 most, .int .i64 bound, .bool dead]) :
    P7 w0 (((((w2.setCell ⟨s, 0, none⟩ (.slice A2 gs.length c2)).setCell ⟨s, 1, none⟩ (.int .i64 lm)).setCell ⟨s, 2, none⟩ (.int .i64 most)).setCell ⟨s, 3, none⟩ (.int .i64 bound)).setCell ⟨s, 4, none⟩ (.bool dd)) d p s v' A2 c2 gs lm most bound dd := by
  have ho : Only (· = s) w2 (((((w2.setCell ⟨s, 0, none⟩ (.slice A2 gs.length c2)).setCell ⟨s, 1, none⟩ (.int .i64 lm)).setCell ⟨s, 2, none⟩ (.int .i64 most)).setCell ⟨s, 3, none⟩ (.int .i64 bound)).setCell ⟨s, 4, none⟩ (.bool dd)) :=
    (Only.step2 (S := (· = s)) (.inl rfl) (Only.step2 (S := (· = s)) (.inl rfl) (Only.step2 (S := (· = s)) (.inl rfl) (Only.step2 (S := (· = s)) (.inl rfl) (Only.step2 (S := (· = s)) (.inl rfl) (Only.of_fresh (S := (· = s)) (Fresh.refl w2)))))))
  have hty : ∀ g t cs, Blk w2 g t cs → g = s → t = 33 := fun g t cs hb e => by
    subst e
    exact Classical.byContradiction (fun hne => hb.ne hst hne rfl)
  refine ⟨hd.only ho (fun k e => by rw [e]; exact h.hs) (fun g t cs hb e => ?_), hl.only ho (fun g cs hb e => ?_), ((((hst.set 0 _).set 1 _).set 2 _).set 3 _).set 4 _, h.hs⟩
  · rw [hty g t cs hb e]
    exact ⟨by decide, by decide, by decide⟩
  · exact absurd (hty g _ cs hb e) (by decide)
def Pl7P (w : World) (e : Ending) (w' : World) : Prop := e = .returned (.bool true) ∧ Fresh w w'
set_option maxHeartbeats 6400000 in
theorem DecodePlays_any (z : Case7) (w : World) (hz : z.Ok w) : Calls Try.prog 3 #[z.v] w fun e w' => e = .returned (.bool true) ∧ Below w.heap.size w w' := by
  show Calls _ _ _ _ (Pl7P w)
  have HW := Lib.hid de_awake
  have HRT := Lib.hid (fun W (hf : Fresh w W) => l7_right z W ⟨hz.m0, hz.m1, hz.b0, hz.b1, ⟨hz.bs.le, hz.bs.max, hz.bs.rows.fresh hf, fun x hx => (hz.bs.ok x hx).fresh hf⟩⟩)
  have HROW := Lib.hid hz.bs.rows
  have HOK := Lib.hid hz.bs.ok
  obtain ⟨most, bound, A, c, xs⟩ := z
  simp only [Case7.v] at *
  clear hz
  have HSM : Hid (Case7.Small ⟨most, bound, ⟨A, c, xs⟩⟩ → 0 ≤ most ∧ most ≤ 65536 ∧ 0 ≤ bound ∧ bound ≤ 16384 ∧ xs.length ≤ 120 ∧ ∀ b ∈ xs, b.l.length ≤ 600) := Lib.hid (fun h => ⟨h.m0, h.m1, h.b0, h.b1, h.n, h.l⟩)
  have HFIN : Hid (∀ W, Fresh w W → Pl7P w (.returned (.bool true)) W) := Lib.hid (fun W h => ⟨rfl, h⟩)
  obtain ⟨n, hn⟩ : ∃ n, xs.length = n := ⟨_, rfl⟩
  have HN := Lib.hid hn
  rw [hn] at HRT HSM ⊢
  clear hn
  generalize Pl7P w = PP at *
  go_enter Try.func3, Try.ntmps3
  go_upto_region 1 with fail
  refine wp_gen (fun W => Blk W w.heap.size 24 #[.int .i64 most, .int .i64 bound, .slice A n c] ∧ Fresh w W) ⟨Blk.new _ _ _, Fresh.alloc _ _⟩ ?_
  rintro W1 ⟨hb1, hf1⟩
  have HB1 := Lib.hid hb1
  have HF1 := Lib.hid hf1
  obtain ⟨c0, c1, c2⟩ := hb1.c3
  generalize w.heap.size = zb at *
  clear hb1 hf1
  go_wp2_with fail
  with_reducible refine (HRT.out _ HF1.out).mono ?_
  rintro e w2 ⟨r, rfl, hr, hf2⟩
  have HR := Lib.hid hr
  have HF2 := Lib.hid (HF1.out.trans hf2)
  have HB2 := Lib.hid (HB1.out.fresh hf2)
  clear hr hf2 c0 c1 c2 HRT
  cases r with
  | false =>
    go_wp2_with fail
    with_reducible refine (HW.out _).mono ?_
    rintro e w3 ⟨rfl, hf3⟩
    have HF3 := Lib.hid (HF2.out.trans hf3)
    clear hf3
    go_wp2
    exact HFIN.out _ HF3.out
  | true =>
    obtain ⟨m0, m1, b0, b1, n1, l1⟩ := HSM.out (HR.out rfl)
    have HL1 := Lib.hid l1
    have HNW := Lib.hid (s7_new most bound m0 m1 b0 b1 w w2 HF2.out)
    have HMM := Lib.hid (And.intro m0 (And.intro m1 (And.intro b0 b1)))
    clear l1 HSM HR m0 m1 b0 b1
    obtain ⟨c0, c1, c2⟩ := HB2.out.c3
    go_wp2_with fail
    with_reducible refine HNW.out.mono ?_
    rintro e w3 ⟨d, p, rfl, hs3, hf3⟩
    have HS3 := Lib.hid hs3
    have HB3 := Lib.hid (HB2.out.fresh hf3)
    clear hs3 hf3 c0 c1 c2 HNW
    obtain ⟨c0, c1, c2⟩ := HB3.out.c3
    go_upto_region 7 with fail
    refine wp_gen (fun W => Blk W w3.heap.size 33 #[.slice none 0 0, .int .i64 most, .int .i64 most, .int .i64 bound, .bool false] ∧ Fresh w3 W) ⟨Blk.new _ _ _, Fresh.alloc _ _⟩ ?_
    rintro W4 ⟨hb4, hf4⟩
    have HP4 : Hid (P7 w W4 d p w3.heap.size (.slice none 0 0) none 0 [] most most bound false) := Lib.hid ⟨HS3.out.fresh hf4, Li7.nil _, hb4, HS3.out.fr.size⟩
    have HB4 := Lib.hid (HB3.out.fresh hf4)
    generalize w3.heap.size = s at *
    clear hb4 hf4 c0 c1 c2 HS3 HB3
    obtain ⟨c0, c1, c2⟩ := HB4.out.c3
    go_wp2_with fail
    clear c0 c1 c2
    go_loopw [40] (fun i wr => ∃ (k : Nat) (v : Value) (A' : Option Addr) (c' : Nat) (fs : List FldT) (lm : Int) (dead : Bool), k ≤ n ∧ i = .int .i64 (k : Int) ∧ P7 w wr d p s v A' c' fs lm most bound dead) (fun i _ => n - (intOf i).toNat)
    case atStart => exact ⟨0, _, none, 0, [], most, false, Nat.zero_le _, rfl, HP4.out⟩
    case round =>
      obtain ⟨k, v, A', c', fs, lm, dead, hk, rfl, hp⟩ := hrel
      have HP := Lib.hid hp
      clear hp HP4 HB4
      by_cases hlt : k < n
      · have hlt' : (k : Int) < (n : Int) := by omega
        obtain ⟨b, hbk⟩ : ∃ b, xs[k]? = some b := ⟨_, List.getElem?_eq_getElem (by rw [HN.out]; exact hlt)⟩
        have hok := HOK.out b (List.mem_of_getElem? hbk)
        have hb600 := HL1.out b (List.mem_of_getElem? hbk)
        obtain ⟨g, o, rfl, hgb, hgc⟩ := HROW.out.one k b hbk
        have hgc := HP.out.dec.fr.cell (p := ⟨g, o + k, none⟩) hgb ▸ hgc
        simp only [BSl.cells, List.getElem?_cons_zero] at hgc
        have HDE := Lib.hid (s7_decode HP.out.dec b hok (by omega))
        have hinv := rd7_inv HP.out.dec b.l
        have HRF := Lib.hid (fun W (hli : Li7 W A' c' fs) => rf7_any A' c' fs lm most bound dead b.l W hli HP.out.dec.l0 HP.out.dec.l1 HP.out.dec.hm HP.out.dec.tz HP.out.dec.b0 HP.out.dec.b1 (by omega))
        generalize rd7 most bound dead fs lm b.l = R at *
        have HLEN : Hid (R.2.1.length ≤ 1000000) := Lib.hid (by
          have h1 := hinv.sum
          have h2 := tz_lenD (R.2.1.map (·.1))
          have h3 := HMM.out.2.2.2
          rw [List.length_map] at h2
          omega)
        have HBS := Lib.hid hok.bs
        clear hinv hok hb600 hbk hgb
        obtain ⟨bA, bc, bl⟩ := b
        simp only at hgc HDE HRF HBS
        generalize hbl : bl.length = bn at *
        have HBL := Lib.hid hbl
        clear hbl
        go_wp2_with fail
        with_reducible refine HDE.out.mono ?_
        rintro e w5 ⟨A1, c1, v', rfl, hl5, hs5, hf5⟩
        have HL5 := Lib.hid hl5
        have HS5 := Lib.hid hs5
        have HLI5 := Lib.hid (hf5.li HP.out.li)
        have HST5 := Lib.hid (hf5.blk HP.out.st (by decide) (by decide) (by decide))
        clear hl5 hs5 hf5 hgc HDE
        have hcv := run_str (P := Try.prog) (HBS.out.fresh HS5.out.fr) 34 9 5 Try.underlying34 Try.underlying5 Try.underlying9 bc
        rw [HBL.out] at hcv
        obtain ⟨c0, c1', c2, c3, c4⟩ := HST5.out.c5
        generalize strB bl = SB at *
        generalize hfl : fs.length = fl at *
        go_wp2_with fail
        with_reducible refine (HRF.out _ HLI5.out).mono ?_
        rintro e w6 ⟨A6, c6, A7, c7, rfl, hli6, hrow6, hf6⟩
        have HLI6 := Lib.hid hli6
        have HR6 := Lib.hid hrow6
        have HS6 := Lib.hid (HS5.out.fresh hf6)
        have HL6 := Lib.hid (HL5.out.fresh hf6)
        have HST6 := Lib.hid (HST5.out.fresh hf6)
        clear hli6 hrow6 hf6 c0 c1' c2 c3 c4 hcv
        obtain ⟨er, out, gs, lm2⟩ := R
        simp only at HLI6 HR6 HS6 HL6 HLEN
        generalize decide (er ≠ 0) = dd at *
        obtain ⟨c0, c1', c2, c3, c4⟩ := HST6.out.c5
        have z0 := HST6.out.frozen 0
        have z1 := HST6.out.frozen 1
        have z2 := HST6.out.frozen 2
        have z3 := HST6.out.frozen 3
        have z4 := HST6.out.frozen 4
        have hnx := HP.out.next HS6.out HLI6.out (by rw [hfl]; exact HST6.out)
        have HNX := Lib.hid hnx
        have HLL : Hid (∀ W, Fresh w6 W → Lns W A1 c1 out ∧ Lnr W A7 out) := Lib.hid (fun W hf => ⟨HL6.out.fresh hf, HR6.out.fresh hf⟩)
        clear hnx
        go_upto_region 14 with fail
        refine wp_gen (fun W => P7 w W d p s v' A6 c6 gs lm2 most bound dd ∧ Only (· = s) w6 W) ⟨HNX.out, Only.step2 (S := (· = s)) (.inl rfl) (Only.step2 (S := (· = s)) (.inl rfl) (Only.step2 (S := (· = s)) (.inl rfl) (Only.step2 (S := (· = s)) (.inl rfl) (Only.step2 (S := (· = s)) (.inl rfl) (Only.of_fresh (S := (· = s)) (Fresh.refl w6))))))⟩ ?_
        rintro W7 ⟨hp7, ho7⟩
        have HP7 := Lib.hid hp7
        have hst : ∀ g t cs, Blk w6 g t cs → t ≠ 33 → ¬ g = s := fun g t cs hb ht e => by
          subst e
          exact hb.ne HST6.out ht rfl
        have HL7 : Hid (Lns W7 A1 c1 out) := Lib.hid (HL6.out.only ho7 (fun g cs hb => hst _ _ _ hb (by decide)))
        have HR7 : Hid (Lnr W7 A7 out) := Lib.hid (HR6.out.only ho7 (fun g cs hb => hst _ _ _ hb (by decide)))
        have HLL := Lib.hid (l7_lines A1 A7 c1 c7 out W7 HL7.out.rows HR7.out.rows HLEN.out)
        have HTB := Lib.hid (fun W (hf : Fresh W7 W) => l7_table (HP7.out.dec.fresh hf) A6 c6 (HP7.out.li.fresh hf))
        have e9 : ((er : Int) == (er : Int)) = true := beq_self_eq_true _
        clear hp7 ho7 hst c0 c1' c2 c3 c4 z0 z1 z2 z3 z4 HNX
        generalize out.length = ol at *
        generalize hgl : gs.length = gl at *
        go_wp2_with fail
        with_reducible refine HLL.out.mono ?_
        rintro e w8 ⟨rfl, hf8⟩
        have HP8 := Lib.hid (HP7.out.fresh hf8)
        have HT8 := Lib.hid (HTB.out _ hf8)
        clear hf8
        obtain ⟨c0, c1', c2, c3, c4⟩ := HP8.out.st.c5
        rw [hgl] at c0
        go_wp2_with fail
        with_reducible refine HT8.out.mono ?_
        rintro e w9 ⟨rfl, hf9⟩
        have HP9 := Lib.hid (HP8.out.fresh hf9)
        clear hf9 c0 c1' c2 c3 c4
        go_wp2
        exact ⟨⟨k + 1, v', A6, c6, gs, lm2, dd, by omega, by go_num, HP9.out⟩, by simp [intOf]; omega⟩
      · obtain rfl : k = n := by omega
        have hnlt : ¬ (k : Int) < (k : Int) := by omega
        go_wp2_with fail
        with_reducible refine (HW.out _).mono ?_
        rintro e w3 ⟨rfl, hf3⟩
        have HF3 := Lib.hid (HP.out.dec.fr.trans hf3)
        clear hf3
        go_wp2
        exact HFIN.out _ HF3.out
end Go.Proofs.Ytffdhegflnhfjaa

