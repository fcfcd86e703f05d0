/-
  The law DecodeCopies.
-/
import Derived.Test.YtffdhegflnhfjaaDecV
namespace Go.Proofs.Ytffdhegflnhfjaa
set_option maxRecDepth 100000
set_option linter.unusedVariables false
set_option linter.unusedSimpArgs false
open Go.RowKit
def Cp7P (w : World) (e : Ending) (w' : World) : Prop := e = .returned (.bool true) ∧ Fresh w w'
section
variable {w0 w w' : World} {d p s c d2 p2 c2 M : Nat} {v v2 : Value} {A A2 : Option Addr} {fs f2 : List FldT} {lim l2 most bound : Int} {dead e2 : Bool}
/-- A decoder, the document's state, all below M; a copy's blocks stand from M on. -/
structure B7 (w0 w : World) (M d p s : Nat) (v : Value) (A : Option Addr) (c : Nat) (fs : List FldT) (lim most bound : Int) (dead : Bool) : Prop where
  p7 : P7 w0 w d p s v A c fs lim most bound dead
  d : d < M
  p : p < M
  v : ∀ k, v.ownBlock = some k → k < M
  s : s < M
  m : w0.heap.size ≤ M
theorem B7.fresh (h : B7 w0 w M d p s v A c fs lim most bound dead) (hf : Fresh w w') : B7 w0 w' M d p s v A c fs lim most bound dead := { h with p7 := h.p7.fresh hf }
theorem B7.far (h : B7 w0 w M d p s v A c fs lim most bound dead) (hf : Far7 w w') (ho : Only (fun k => k = d2 ∨ k = p2 ∨ v2.ownBlock = some k) w w') (h1 : M ≤ d2) (h2 : M ≤ p2) (h3 : ∀ k, v2.ownBlock = some k → M ≤ k) : B7 w0 w' M d p s v A c fs lim most bound dead := by
  have hlow : ∀ k, (k = d2 ∨ k = p2 ∨ v2.ownBlock = some k) → M ≤ k := by
    rintro k (e | e | e)
    · omega
    · omega
    · exact h3 k e
  have hm := h.m
  refine { h with p7 := ⟨h.p7.dec.apart ho (fun k e => by have := hlow k e; omega) (fun e => by have := hlow _ e; have := h.d; omega) (fun e => by have := hlow _ e; have := h.p; omega) (fun k hk e => by have := hlow _ e; have := h.v k hk; omega), hf.li h.p7.li, hf.blk h.p7.st (by decide) (by decide) (by decide), h.p7.hs⟩ }
theorem B7.store (h : B7 w0 w M d p s v A c fs lim most bound dead) {s2 : Nat} {cs : Array Value} (hs2 : Blk w s2 33 cs) (ho : Only (· = s2) w w') (h1 : M ≤ s2) : B7 w0 w' M d p s v A c fs lim most bound dead := by
  have hty : ∀ g t cs', Blk w g t cs' → g = s2 → t = 33 := fun g t cs' hb e => by
    subst e
    exact Classical.byContradiction (fun hne => hb.ne hs2 hne rfl)
  have hm := h.m
  refine { h with p7 := ⟨h.p7.dec.only ho (fun k e => by omega) (fun g t cs' hb e => ?_), h.p7.li.only ho (fun g cs' hb e => absurd (hty g _ cs' hb e) (by decide)), h.p7.st.only ho (fun e => by have := h.s; omega), h.p7.hs⟩ }
  rw [hty g t cs' hb e]
  exact ⟨by decide, by decide, by decide⟩
end
theorem five_only (w : World) (s : Nat) (a b c d e : Value) : Only (· = s) w (((((w.setCell ⟨s, 0, none⟩ a).setCell ⟨s, 1, none⟩ b).setCell ⟨s, 2, none⟩ c).setCell ⟨s, 3, none⟩ d).setCell ⟨s, 4, none⟩ e) :=
  Only.step2 (S := (· = s)) (.inl rfl) (Only.step2 (S := (· = s)) (.inl rfl) (Only.step2 (S := (· = s)) (.inl rfl) (Only.step2 (S := (· = s)) (.inl rfl) (Only.step2 (S := (· = s)) (.inl rfl) (Only.of_fresh (S := (· = s)) (Fresh.refl w))))))
section
variable {w : World}
set_option maxHeartbeats 3200000 in
theorem copies_no (z : Case7) (s : BSls) (h : z.most < 0 ∨ 65536 < z.most ∨ z.bound < 0 ∨ 16384 < z.bound) : Calls Try.prog 6 #[z.v, .slice s.A s.xs.length s.c] w (Cp7P w) := by
  have HW := Lib.hid de_awake
  obtain ⟨most, bound, A, c, xs⟩ := z
  simp only [Case7.v] at *
  have HNW := Lib.hid (fun W => de_new_no most bound W h)
  have HFIN : Hid (∀ W, Fresh w W → Cp7P w (.returned (.bool true)) W) := Lib.hid (fun W h => ⟨rfl, h⟩)
  generalize xs.length = n at *
  generalize s.xs.length = m at *
  generalize Cp7P w = PP at *
  have hcase : most < 0 ∨ (¬ most < 0 ∧ 65536 < most) ∨ (¬ most < 0 ∧ ¬ 65536 < most ∧ bound < 0) ∨ (¬ most < 0 ∧ ¬ 65536 < most ∧ ¬ bound < 0 ∧ 16384 < bound) := by omega
  clear h
  go_enter Try.func6, Try.ntmps6
  go_upto_region 1 with fail
  refine wp_gen (fun W => Blk W w.heap.size 24 #[.int .i64 most, .int .i64 bound, .slice A n c] ∧ Fresh w W) ⟨Blk.new _ _ _, Fresh.alloc _ _⟩ ?_
  rintro W1 ⟨hb1, hf1⟩
  generalize w.heap.size = zb at *
  have HB1 := Lib.hid hb1
  have HF1 := Lib.hid hf1
  obtain ⟨c0, c1, c2⟩ := hb1.c3
  clear hb1 hf1
  go_wp2_with fail
  with_reducible refine (HNW.out _).mono ?_
  rintro e w2 ⟨rfl, hf2⟩
  have HF2 := Lib.hid (HF1.out.trans hf2)
  have HB2 := Lib.hid (HB1.out.fresh hf2)
  clear hf2 c0 c1 c2
  obtain ⟨c0, c1, c2⟩ := HB2.out.c3
  rcases hcase with h1 | ⟨h1, h2⟩ | ⟨h1, h2, h3⟩ | ⟨h1, h2, h3, h4⟩
  all_goals
    go_wp2_with fail
    with_reducible refine (HW.out _).mono ?_
    rintro e w3 ⟨rfl, hf3⟩
    have HF3 := Lib.hid (HF2.out.trans hf3)
    clear hf3
    go_wp2
    exact HFIN.out _ HF3.out
set_option maxHeartbeats 12800000 in
theorem copies_yes (z : Case7) (s2 : BSls) (hz : z.Ok w) (hs2 : s2.Ok w) (m0 : 0 ≤ z.most) (m1 : z.most ≤ 65536) (b0 : 0 ≤ z.bound) (b1 : z.bound ≤ 16384) : Calls Try.prog 6 #[z.v, .slice s2.A s2.xs.length s2.c] w (Cp7P w) := by
  have HW := Lib.hid de_awake
  have HRT := Lib.hid (fun W (hf : Fresh w W) => l7_right z W ⟨hz.m0, hz.m1, hz.b0, hz.b1, ⟨hz.bs.le, hz.bs.max, hz.bs.rows.fresh hf, fun x hx => (hz.bs.ok x hx).fresh hf⟩⟩)
  have HRT2 := Lib.hid (fun W (hf : Fresh w W) => l7_right ⟨z.most, z.bound, s2⟩ W ⟨hz.m0, hz.m1, hz.b0, hz.b1, ⟨hs2.le, hs2.max, hs2.rows.fresh hf, fun x hx => (hs2.ok x hx).fresh hf⟩⟩)
  have HROW := Lib.hid hz.bs.rows
  have HOK := Lib.hid hz.bs.ok
  have HROW2 := Lib.hid hs2.rows
  have HOK2 := Lib.hid hs2.ok
  obtain ⟨most, bound, A, c, xs⟩ := z
  obtain ⟨B, cB, ys⟩ := s2
  simp only [Case7.v] at *
  clear hz hs2
  have HSM : Hid (Case7.Small ⟨most, bound, ⟨A, c, xs⟩⟩ → xs.length ≤ 120 ∧ ∀ b ∈ xs, b.l.length ≤ 600) := Lib.hid (fun h => ⟨h.n, h.l⟩)
  have HSM2 : Hid (Case7.Small ⟨most, bound, ⟨B, cB, ys⟩⟩ → ys.length ≤ 120 ∧ ∀ b ∈ ys, b.l.length ≤ 600) := Lib.hid (fun h => ⟨h.n, h.l⟩)
  have HFIN : Hid (∀ W, Fresh w W → Cp7P w (.returned (.bool true)) W) := Lib.hid (fun W h => ⟨rfl, h⟩)
  have HNW := Lib.hid (fun W hf => s7_new most bound m0 m1 b0 b1 w W hf)
  have HMM := Lib.hid (And.intro m0 (And.intro m1 (And.intro b0 b1)))
  have g0 : ¬ most < 0 := by omega
  have g1 : ¬ 65536 < most := by omega
  have g2 : ¬ bound < 0 := by omega
  have g3 : ¬ 16384 < bound := by omega
  clear m0 m1 b0 b1
  obtain ⟨n, hn⟩ : ∃ n, xs.length = n := ⟨_, rfl⟩
  have HN := Lib.hid hn
  obtain ⟨m, hm⟩ : ∃ m, ys.length = m := ⟨_, rfl⟩
  have HM := Lib.hid hm
  rw [hn] at HRT HSM ⊢
  rw [hm] at HRT2 HSM2 ⊢
  clear hn hm
  generalize Cp7P w = PP at *
  go_enter Try.func6, Try.ntmps6
  go_upto_region 1 with fail
  refine wp_gen (fun W => Blk W w.heap.size 24 #[.int .i64 most, .int .i64 bound, .slice A n c] ∧ Fresh w W) ⟨Blk.new _ _ _, Fresh.alloc _ _⟩ ?_
  rintro W1 ⟨hb1, hf1⟩
  have HB1 := Lib.hid hb1
  have HF1 := Lib.hid hf1
  obtain ⟨c0, c1, c2⟩ := hb1.c3
  generalize w.heap.size = zb at *
  clear hb1 hf1
  go_wp2_with fail
  with_reducible refine (HNW.out _ HF1.out).mono ?_
  rintro e w2 ⟨d, p, rfl, hs2, hf2⟩
  have HS2 := Lib.hid hs2
  have HB2 := Lib.hid (HB1.out.fresh hf2)
  clear hs2 hf2 c0 c1 c2 HNW
  obtain ⟨c0, c1, c2⟩ := HB2.out.c3
  go_wp2_with fail
  with_reducible refine (HRT.out _ HS2.out.fr).mono ?_
  rintro e w3 ⟨r, rfl, hr, hf3⟩
  have HR := Lib.hid hr
  have HS3 := Lib.hid (HS2.out.fresh hf3)
  have HB3 := Lib.hid (HB2.out.fresh hf3)
  clear hr hf3 c0 c1 c2 HRT
  cases r with
  | false =>
    go_wp2_with fail
    with_reducible refine (HW.out _).mono ?_
    rintro e w4 ⟨rfl, hf4⟩
    have HF4 := Lib.hid (HS3.out.fr.trans hf4)
    clear hf4
    go_wp2
    exact HFIN.out _ HF4.out
  | true =>
    obtain ⟨n1, l1⟩ := HSM.out (HR.out rfl)
    have HL1 := Lib.hid l1
    clear l1 HSM HR
    obtain ⟨c0, c1, c2⟩ := HB3.out.c3
    go_wp2_with fail
    with_reducible refine (HRT2.out _ HS3.out.fr).mono ?_
    rintro e w4 ⟨r2, rfl, hr2, hf4⟩
    have HR2 := Lib.hid hr2
    have HS4 := Lib.hid (HS3.out.fresh hf4)
    have HB4 := Lib.hid (HB3.out.fresh hf4)
    clear hr2 hf4 c0 c1 c2 HRT2
    cases r2 with
    | false =>
      go_wp2_with fail
      with_reducible refine (HW.out _).mono ?_
      rintro e w5 ⟨rfl, hf5⟩
      have HF5 := Lib.hid (HS4.out.fr.trans hf5)
      clear hf5
      go_wp2
      exact HFIN.out _ HF5.out
    | true =>
      obtain ⟨n2, l2⟩ := HSM2.out (HR2.out rfl)
      have HL2 := Lib.hid l2
      clear l2 HSM2 HR2
      obtain ⟨c0, c1, c2⟩ := HB4.out.c3
      go_upto_region 9 with fail
      refine wp_gen (fun W => Blk W w4.heap.size 33 #[.slice none 0 0, .int .i64 most, .int .i64 most, .int .i64 bound, .bool false] ∧ Fresh w4 W) ⟨Blk.new _ _ _, Fresh.alloc _ _⟩ ?_
      rintro W5 ⟨hb5, hf5⟩
      have HP5 : Hid (P7 w W5 d p w4.heap.size (.slice none 0 0) none 0 [] most most bound false) := Lib.hid ⟨HS4.out.fresh hf5, Li7.nil _, hb5, HS4.out.fr.size⟩
      have HB5 := Lib.hid (HB4.out.fresh hf5)
      generalize w4.heap.size = s at *
      clear hb5 hf5 c0 c1 c2 HS4 HB4 g0 g1 g2 g3
      obtain ⟨c0, c1, c2⟩ := HB5.out.c3
      go_wp2_with fail
      clear c0 c1 c2
      go_loopw [83] (fun i wr => ∃ (k : Nat) (v : Value) (A' : Option Addr) (c' : Nat) (fs : List FldT) (lm : Int) (dead : Bool), k ≤ n ∧ i = .int .i64 (k : Int) ∧ P7 w wr d p s v A' c' fs lm most bound dead) (fun i _ => n - (intOf i).toNat)
      case atStart => exact ⟨0, _, none, 0, [], most, false, Nat.zero_le _, rfl, HP5.out⟩
      case round =>
        obtain ⟨k, v, A', c', fs, lm, dead, hk, rfl, hp⟩ := hrel
        have HP := Lib.hid hp
        clear hp HP5 HB5
        by_cases hlt : k < n
        · as_aux_lemma =>
          have hlt' : (k : Int) < (n : Int) := by omega
          obtain ⟨b, hbk⟩ : ∃ b, xs[k]? = some b := ⟨_, List.getElem?_eq_getElem (by rw [HN.out]; exact hlt)⟩
          have hok := HOK.out b (List.mem_of_getElem? hbk)
          have hb600 := HL1.out b (List.mem_of_getElem? hbk)
          obtain ⟨g, o, rfl, hgb, hgc⟩ := HROW.out.one k b hbk
          have hgc := HP.out.dec.fr.cell (p := ⟨g, o + k, none⟩) hgb ▸ hgc
          simp only [BSl.cells, List.getElem?_cons_zero] at hgc
          have HDE := Lib.hid (s7_decode HP.out.dec b hok (by omega))
          have HRF := Lib.hid (fun W (hli : Li7 W A' c' fs) => rf7_any A' c' fs lm most bound dead b.l W hli HP.out.dec.l0 HP.out.dec.l1 HP.out.dec.hm HP.out.dec.tz HP.out.dec.b0 HP.out.dec.b1 (by omega))
          generalize rd7 most bound dead fs lm b.l = R at *
          have HBS := Lib.hid hok.bs
          clear hok hb600 hbk hgb
          obtain ⟨bA, bc, bl⟩ := b
          simp only at hgc HDE HRF HBS
          generalize hbl : bl.length = bn at *
          have HBL := Lib.hid hbl
          clear hbl
          go_wp2_with fail
          with_reducible refine HDE.out.mono ?_
          rintro e w5 ⟨A1, c1, v', rfl, hl5, hs5, hf5⟩
          have HS5 := Lib.hid hs5
          have HLI5 := Lib.hid (hf5.li HP.out.li)
          have HST5 := Lib.hid (hf5.blk HP.out.st (by decide) (by decide) (by decide))
          clear hl5 hs5 hf5 hgc HDE
          have hcv := run_str (P := Try.prog) (HBS.out.fresh HS5.out.fr) 34 9 5 Try.underlying34 Try.underlying5 Try.underlying9 bc
          rw [HBL.out] at hcv
          obtain ⟨c0, c1', c2, c3, c4⟩ := HST5.out.c5
          generalize strB bl = SB at *
          generalize hfl : fs.length = fl at *
          go_wp2_with fail
          with_reducible refine (HRF.out _ HLI5.out).mono ?_
          rintro e w6 ⟨A6, c6, A7, c7, rfl, hli6, hrow6, hf6⟩
          have HLI6 := Lib.hid hli6
          have HS6 := Lib.hid (HS5.out.fresh hf6)
          have HST6 := Lib.hid (HST5.out.fresh hf6)
          clear hli6 hrow6 hf6 c0 c1' c2 c3 c4 hcv
          obtain ⟨er, out, gs, lm2⟩ := R
          simp only at HLI6 HS6
          generalize decide (er ≠ 0) = dd at *
          obtain ⟨c0, c1', c2, c3, c4⟩ := HST6.out.c5
          have z0 := HST6.out.frozen 0
          have z1 := HST6.out.frozen 1
          have z2 := HST6.out.frozen 2
          have z3 := HST6.out.frozen 3
          have z4 := HST6.out.frozen 4
          have HNX := Lib.hid (HP.out.next HS6.out HLI6.out (by rw [hfl]; exact HST6.out))
          go_wp2
          exact ⟨⟨k + 1, v', A6, c6, gs, lm2, dd, by omega, by go_num, HNX.out⟩, by simp [intOf]; omega⟩
        · obtain rfl : k = n := by omega
          have hnlt : ¬ (k : Int) < (k : Int) := by omega
          have HCP := Lib.hid (de_copy w.heap.size d p v fs lm most bound dead wr HP.out.dec.dec HP.out.dec.fr.size HP.out.dec.len)
          go_wp2_with fail
          with_reducible refine HCP.out.mono ?_
          rintro e w5 ⟨d2, p2, v2, rfl, hdc, hd2, hp2, hv2, hf5⟩
          have hMsz := HP.out.dec.fr.size
          have HS5 : Hid (S7 w w5 d2 p2 v2 fs lm most bound dead) := Lib.hid ⟨⟨hdc.blk, ⟨hdc.tab.blk, Own.base_le hdc.tab.own hMsz⟩⟩, by omega, by omega, fun k hk => by have := hv2 k hk; omega, by omega, fun k hk => by have := hv2 k hk; omega, HP.out.dec.fr.trans hf5, HP.out.dec.l0, HP.out.dec.l1, HP.out.dec.hm, HP.out.dec.tz, HP.out.dec.b0, HP.out.dec.b1⟩
          have HB5 : Hid (B7 w w5 wr.heap.size d p s v A' c' fs lm most bound dead) := Lib.hid ⟨HP.out.fresh hf5, HP.out.dec.dec.blk.lt, HP.out.dec.dec.tab.blk.lt, fun k hk => (HP.out.dec.dec.tab.ne k hk).2, HP.out.st.lt, hMsz⟩
          have HV2 : Hid (∀ k, v2.ownBlock = some k → wr.heap.size ≤ k) := Lib.hid (fun k hk => by have := hv2 k hk; omega)
          have HDP : Hid (wr.heap.size ≤ d2 ∧ wr.heap.size ≤ p2 ∧ wr.heap.size ≤ w5.heap.size) := Lib.hid ⟨hd2, by omega, hf5.size⟩
          generalize wr.heap.size = M at *
          clear hMsz hdc hd2 hp2 hv2 hf5 HCP HOK HROW HL1
          obtain ⟨c0, c1, c2, c3, c4⟩ := HB5.out.p7.st.c5
          generalize hfl : fs.length = fl at *
          go_upto_region 19 with fail
          refine wp_gen (fun W => Blk W w5.heap.size 33 #[.slice A' fl c', .int .i64 lm, .int .i64 most, .int .i64 bound, .bool dead] ∧ Fresh w5 W) ⟨Blk.new _ _ _, Fresh.alloc _ _⟩ ?_
          rintro W6 ⟨hb6, hf6⟩
          have HP6 : Hid (P7 w W6 d2 p2 w5.heap.size v2 A' c' fs lm most bound dead) := Lib.hid ⟨HS5.out.fresh hf6, HB5.out.p7.li.fresh hf6, by rw [hfl]; exact hb6, HS5.out.fr.size⟩
          have HB6 := Lib.hid (HB5.out.fresh hf6)
          have HMS : Hid (M ≤ w5.heap.size) := Lib.hid HDP.out.2.2
          generalize w5.heap.size = s2 at *
          clear hb6 hf6 c0 c1 c2 c3 c4 HS5 HB5 HP
          go_wp2_with fail
          go_loopw [106] (fun i wr => ∃ (j : Nat) (v3 : Value) (A3 : Option Addr) (c3 : Nat) (gs : List FldT) (lm3 : Int) (d3 : Bool), j ≤ m ∧ i = .int .i64 (j : Int) ∧ P7 w wr d2 p2 s2 v3 A3 c3 gs lm3 most bound d3 ∧ B7 w wr M d p s v A' c' fs lm most bound dead ∧ ∀ k, v3.ownBlock = some k → M ≤ k) (fun i _ => m - (intOf i).toNat)
          case atStart => exact ⟨0, v2, A', c', fs, lm, dead, Nat.zero_le _, rfl, HP6.out, HB6.out, HV2.out⟩
          case round =>
            obtain ⟨j, v3, A3, c3, gs3, lm3, d3, hj, rfl, hp, hb, hv3⟩ := hrel
            have HP := Lib.hid hp
            have HB := Lib.hid hb
            have HV3 := Lib.hid hv3
            clear hp hb hv3 HP6 HB6 HV2
            by_cases hlt : j < m
            · as_aux_lemma =>
              have hlt' : (j : Int) < (m : Int) := by omega
              obtain ⟨b, hbk⟩ : ∃ b, ys[j]? = some b := ⟨_, List.getElem?_eq_getElem (by rw [HM.out]; exact hlt)⟩
              have hok := HOK2.out b (List.mem_of_getElem? hbk)
              have hb600 := HL2.out b (List.mem_of_getElem? hbk)
              obtain ⟨g, o, rfl, hgb, hgc⟩ := HROW2.out.one j b hbk
              have hgc := HP.out.dec.fr.cell (p := ⟨g, o + j, none⟩) hgb ▸ hgc
              simp only [BSl.cells, List.getElem?_cons_zero] at hgc
              have HDE := Lib.hid (s7_decodeQ HP.out.dec b.A b.c b.l hok.le (by have := hok.max; unfold maxLen; omega) (hok.bs.fresh HP.out.dec.fr) (HP.out.dec.notIn b hok) (by omega))
              have hinv := rd7_inv HP.out.dec b.l
              have HRF := Lib.hid (fun W (hli : Li7 W A3 c3 gs3) => rf7_any A3 c3 gs3 lm3 most bound d3 b.l W hli HP.out.dec.l0 HP.out.dec.l1 HP.out.dec.hm HP.out.dec.tz HP.out.dec.b0 HP.out.dec.b1 (by omega))
              generalize rd7 most bound d3 gs3 lm3 b.l = R at *
              have HLEN : Hid (R.2.1.length ≤ 1000000) := Lib.hid (by
                have h1 := hinv.sum
                have h2 := tz_lenD (R.2.1.map (·.1))
                have h3 := HMM.out.2.2.2
                rw [List.length_map] at h2
                omega)
              have HBS := Lib.hid hok.bs
              clear hok hb600 hbk hgb hinv
              obtain ⟨bA, bc, bl⟩ := b
              unfold Dec7Q at HDE
              simp only at hgc HDE HRF HBS
              generalize hbl : bl.length = bn at *
              have HBL := Lib.hid hbl
              clear hbl
              go_wp2_with fail
              with_reducible refine HDE.out.mono ?_
              rintro e w5 ⟨A1, c1, v', rfl, hl5, hs5, hf5, ho5, hg5⟩
              have HL5 := Lib.hid hl5
              have HS5 := Lib.hid hs5
              have HLI5 := Lib.hid (hf5.li HP.out.li)
              have HST5 := Lib.hid (hf5.blk HP.out.st (by decide) (by decide) (by decide))
              have HB5 := Lib.hid (HB.out.far hf5 ho5 HDP.out.1 HDP.out.2.1 HV3.out)
              have HV5 : Hid (∀ k, v'.ownBlock = some k → M ≤ k) := Lib.hid (fun k hk => by
                rcases hg5 k hk with e | e
                · exact HV3.out k e
                · have := HB.out.s; have := HP.out.st.lt; have := HMS.out; omega)
              clear hl5 hs5 hf5 ho5 hg5 hgc HDE
              have hcv := run_str (P := Try.prog) (HBS.out.fresh HS5.out.fr) 34 9 5 Try.underlying34 Try.underlying5 Try.underlying9 bc
              rw [HBL.out] at hcv
              obtain ⟨c0, c1', c2, c3', c4⟩ := HST5.out.c5
              generalize strB bl = SB at *
              generalize hgl3 : gs3.length = gl3 at *
              go_wp2_with fail
              with_reducible refine (HRF.out _ HLI5.out).mono ?_
              rintro e w6 ⟨A6, c6, A7, c7, rfl, hli6, hrow6, hf6⟩
              have HLI6 := Lib.hid hli6
              have HR6 := Lib.hid hrow6
              have HS6 := Lib.hid (HS5.out.fresh hf6)
              have HL6 := Lib.hid (HL5.out.fresh hf6)
              have HST6 := Lib.hid (HST5.out.fresh hf6)
              have HB6 := Lib.hid (HB5.out.fresh hf6)
              clear hli6 hrow6 hf6 c0 c1' c2 c3' c4 hcv
              obtain ⟨er, out, gs, lm2⟩ := R
              simp only at HLI6 HR6 HS6 HL6 HLEN
              generalize decide (er ≠ 0) = dd at *
              obtain ⟨c0, c1', c2, c3', c4⟩ := HST6.out.c5
              have z0 := HST6.out.frozen 0
              have z1 := HST6.out.frozen 1
              have z2 := HST6.out.frozen 2
              have z3 := HST6.out.frozen 3
              have z4 := HST6.out.frozen 4
              have HNX := Lib.hid (HP.out.next HS6.out HLI6.out (by rw [hgl3]; exact HST6.out))
              go_upto_region 26 with fail
              refine wp_gen (fun W => P7 w W d2 p2 s2 v' A6 c6 gs lm2 most bound dd ∧ Only (· = s2) w6 W) ⟨HNX.out, five_only _ _ _ _ _ _ _⟩ ?_
              rintro W7 ⟨hp7, ho7⟩
              have HP7 := Lib.hid hp7
              have hst : ∀ g t cs, Blk w6 g t cs → t ≠ 33 → ¬ g = s2 := fun g t cs hb ht e => by
                subst e
                exact hb.ne HST6.out ht rfl
              have HL7 : Hid (Lns W7 A1 c1 out) := Lib.hid (HL6.out.only ho7 (fun g cs hb => hst _ _ _ hb (by decide)))
              have HR7 : Hid (Lnr W7 A7 out) := Lib.hid (HR6.out.only ho7 (fun g cs hb => hst _ _ _ hb (by decide)))
              have HB7 := Lib.hid (HB6.out.store HST6.out ho7 HMS.out)
              have HLL := Lib.hid (l7_lines A1 A7 c1 c7 out W7 HL7.out.rows HR7.out.rows HLEN.out)
              have e9 : ((er : Int) == (er : Int)) = true := beq_self_eq_true _
              clear hp7 ho7 hst c0 c1' c2 c3' c4 z0 z1 z2 z3 z4 HNX
              generalize out.length = ol at *
              go_wp2_with fail
              with_reducible refine HLL.out.mono ?_
              rintro e w8 ⟨rfl, hf8⟩
              have HP8 := Lib.hid (HP7.out.fresh hf8)
              have HB8 := Lib.hid (HB7.out.fresh hf8)
              clear hf8
              go_wp2
              exact ⟨⟨j + 1, v', A6, c6, gs, lm2, dd, by omega, by go_num, HP8.out, HB8.out, HV5.out⟩, by simp [intOf]; omega⟩
            · obtain rfl : j = m := by omega
              have hnlt2 : ¬ (j : Int) < (j : Int) := by omega
              have HT1 := Lib.hid (l7_table HB.out.p7.dec A' c' HB.out.p7.li)
              have HT2 := Lib.hid (fun W (hf : Fresh wr W) => l7_table (HP.out.dec.fresh hf) A3 c3 (HP.out.li.fresh hf))
              obtain ⟨c0, c1, c2, c3', c4⟩ := HB.out.p7.st.c5
              rw [hfl] at HT1 c0
              go_wp2_with fail
              with_reducible refine HT1.out.mono ?_
              rintro e w6 ⟨rfl, hf6⟩
              have HP6 := Lib.hid (HP.out.fresh hf6)
              have HT3 := Lib.hid (HT2.out _ hf6)
              clear hf6 c0 c1 c2 c3' c4
              obtain ⟨c0, c1, c2, c3', c4⟩ := HP6.out.st.c5
              go_wp2_with fail
              with_reducible refine HT3.out.mono ?_
              rintro e w7 ⟨rfl, hf7⟩
              have HF7 := Lib.hid (HP6.out.dec.fr.trans hf7)
              clear hf7 c0 c1 c2 c3' c4
              go_wp2_with fail
              with_reducible refine (HW.out _).mono ?_
              rintro e w8 ⟨rfl, hf8⟩
              have HF8 := Lib.hid (HF7.out.trans hf8)
              clear hf8
              go_wp2
              exact HFIN.out _ HF8.out
end
theorem DecodeCopies_any (z : Case7) (s : BSls) (w : World) (hz : z.Ok w) (hs : s.Ok w) : Calls Try.prog 6 #[z.v, .slice s.A s.xs.length s.c] w fun e w' => e = .returned (.bool true) ∧ Below w.heap.size w w' := by
  show Calls _ _ _ _ (Cp7P w)
  by_cases h : z.most < 0 ∨ 65536 < z.most ∨ z.bound < 0 ∨ 16384 < z.bound
  · exact copies_no z s h
  · exact copies_yes z s hz hs (by omega) (by omega) (by omega) (by omega)
end Go.Proofs.Ytffdhegflnhfjaa

