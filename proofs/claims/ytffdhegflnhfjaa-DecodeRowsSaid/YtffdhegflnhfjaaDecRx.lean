/-
  The law DecodeRows: its walk.
-/
import Derived.Test.YtffdhegflnhfjaaDecRw
import Derived.Test.YtffdhegflnhfjaaNotN
import Derived.Test.YtffdhegflnhfjaaLnEq
namespace Go.Proofs.Ytffdhegflnhfjaa
set_option maxRecDepth 100000
set_option linter.unusedVariables false
set_option linter.unusedSimpArgs false
open Go.RowKit
def BSl.val (x : BSl) : Value := .slice x.A x.l.length x.c
theorem two_bsls {w W : World} {a b : BSl} (ha : a.Ok w) (hb : b.Ok w) (hf : Fresh w W) {g : Nat} (h : Blk W g 34 #[a.val, b.val]) : BSls.Ok W ⟨some ⟨g, 0, none⟩, 2, [a, b]⟩ := by
  refine ⟨by simp, by simp, fun _ => ⟨g, 0, rfl, h.lt, fun i hi j hj => ?_⟩, fun x hx => ?_⟩
  · have hi2 : i < 2 := hi
    obtain rfl : j = 0 := by omega
    rw [Nat.zero_add, h.cell]
    match i, hi2 with
    | 0, _ => rfl
    | 1, _ => rfl
  · simp only [List.mem_cons, List.not_mem_nil, or_false] at hx
    rcases hx with rfl | rfl
    · exact ha.fresh hf
    · exact hb.fresh hf
theorem bd_nums2 {fs : List FldT} {k n : Nat} {f : FldT} (hk : fs[k]? = some f) (hn : fs.length = n) (hs : tz fs ≤ 32768) : (k : Int) < (n : Int) ∧ k < n ∧ IntKind.i64.wrap ((k : Int) + 1) = (k : Int) + 1 ∧ fz f ≤ 4503599627370496 ∧ IntKind.i64.wrap ((tz (fs.take k) : Int) + (fz f : Int)) = (tz (fs.take (k + 1)) : Int) := by
  have h1 := (List.getElem?_eq_some_iff.1 hk).1
  have h2 := tz_take fs k f hk
  have h3 := tz_take_le fs (k + 1)
  have h4 := tz_lenD fs
  have h5 : fz f ≤ tz (fs.take (k + 1)) := by omega
  refine ⟨by omega, by omega, IntWalk.i64_in _ (by omega), by omega, ?_⟩
  rw [show (tz (fs.take k) : Int) + (fz f : Int) = (tz (fs.take (k + 1)) : Int) by omega]
  exact IntWalk.i64_in _ (by omega)
set_option maxHeartbeats 12800000 in
theorem rows_front (most : Int) (a b : BSl) (w : World) (hmb : -9223372036854775808 ≤ most ∧ most ≤ 9223372036854775807) (ha : a.Ok w) (hb : b.Ok w) :
    Calls Try.prog 7 #[.int .i64 most, .slice a.A a.l.length a.c, .slice b.A b.l.length b.c] w (Rw7P w) := by
  have HW := Lib.hid de_awake
  have HRT := Lib.hid (fun W g (hf : Fresh w W) (h : Blk W g 34 #[a.val, b.val]) => l7_right ⟨most, 16384, ⟨some ⟨g, 0, none⟩, 2, [a, b]⟩⟩ W ⟨hmb.1, hmb.2, by simp, by simp, two_bsls ha hb hf h⟩)
  have HSM : Hid (∀ g, Case7.Small ⟨most, 16384, ⟨some ⟨g, 0, none⟩, 2, [a, b]⟩⟩ → 0 ≤ most ∧ most ≤ 65536 ∧ a.l.length ≤ 600 ∧ b.l.length ≤ 600) := Lib.hid (fun g h => ⟨h.m0, h.m1, h.l a (by simp), h.l b (by simp)⟩)
  have HA := Lib.hid ha
  have HB := Lib.hid hb
  have HFIN : Hid (∀ W, Fresh w W → Rw7P w (.returned (.bool true)) W) := Lib.hid (fun W h => ⟨rfl, h⟩)
  have hla := Nat.le_trans ha.le ha.max
  have hlb := Nat.le_trans hb.le hb.max
  clear ha hb hmb
  unfold BSl.val at HRT
  simp only [Case7.v, List.length_cons, List.length_nil] at HRT
  obtain ⟨n, hn⟩ : ∃ n, a.l.length = n := ⟨_, rfl⟩
  have HN := Lib.hid hn
  obtain ⟨m, hm⟩ : ∃ m, b.l.length = m := ⟨_, rfl⟩
  have HM := Lib.hid hm
  rw [hn, hm] at HRT
  rw [hn] at hla
  rw [hm] at hlb
  rw [hn, hm]
  clear hn hm
  generalize Rw7P w = PP at *
  go_enter Try.func7, Try.ntmps7
  have hbk := Blk.new w 34 #[.slice a.A n a.c, .slice b.A m b.c]
  have HR1 := Lib.hid (HRT.out _ w.heap.size (Fresh.alloc w (.cells #[.slice a.A n a.c, .slice b.A m b.c] 34)) hbk)
  clear hbk HRT
  go_wp2_with fail
  with_reducible refine HR1.out.mono ?_
  rintro e w2 ⟨r, rfl, hr, hf2⟩
  have HR := Lib.hid hr
  have HF2 := Lib.hid ((Fresh.alloc w (.cells #[.slice a.A n a.c, .slice b.A m b.c] 34)).trans hf2)
  clear hr hf2 HR1
  cases r with
  | false =>
    go_wp2_with fail
    with_reducible refine (HW.out _).mono ?_
    rintro e w3 ⟨rfl, hf3⟩
    have HF3 := Lib.hid (HF2.out.trans hf3)
    clear hf3
    go_wp2
    exact HFIN.out _ HF3.out
  | true =>
    obtain ⟨m0, m1, la, lb⟩ := HSM.out _ (HR.out rfl)
    have HLA : Hid (a.l.length ≤ 600 ∧ b.l.length ≤ 600) := Lib.hid ⟨la, lb⟩
    have HNW := Lib.hid (s7_newB most 16384 m0 m1 (by decide) (by decide) w)
    have hcase : (m = 0 ∨ (∃ c r, b.l = c :: r ∧ c.toNat < 32) ∨ (∃ c r, b.l = c :: r ∧ 64 ≤ c.toNat)) ∨ (∃ c r, b.l = c :: r ∧ 32 ≤ c.toNat ∧ c.toNat < 64) := by
      cases hbl : b.l with
      | nil => left; left; have := HM.out; rw [hbl] at this; simpa using this.symm
      | cons c r =>
        by_cases h1 : c.toNat < 32
        · exact .inl (.inr (.inl ⟨c, r, rfl, h1⟩))
        · by_cases h2 : 64 ≤ c.toNat
          · exact .inl (.inr (.inr ⟨c, r, rfl, h2⟩))
          · exact .inr ⟨c, r, rfl, by omega, by omega⟩
    have hcell : ∀ c r, b.l = c :: r → ∃ bb oo, b.A = some ⟨bb, oo, none⟩ ∧ w2.cell? ⟨bb, oo, none⟩ = some (.int .u8 (c.toNat : Int)) ∧ 0 < m := fun c r e => by
      obtain ⟨bb, oo, h1, h2, h3⟩ := (HB.out.bs.fresh HF2.out).addr (by rw [e]; simp)
      have h4 := h3 0 (by rw [e]; simp)
      simp only [e, List.getElem_cons_zero, Nat.add_zero] at h4
      exact ⟨bb, oo, h1, h4, by rw [← HM.out, e]; simp⟩
    clear HSM HR m0 m1 la lb
    obtain ⟨bA, bc, bl⟩ := b
    simp only at *
    rcases hcase with hcase | ⟨c, r, hbl, hc1, hc2⟩
    · have HK2 : Hid (∀ c r, bl = c :: r → kindR c.toNat ≠ 2) := Lib.hid (fun c r e => by
        rcases hcase with h | ⟨c', r', h, h2⟩ | ⟨c', r', h, h2⟩
        · have := HM.out; rw [e] at this; simp at this; omega
        · rw [e] at h
          injection h with h3 _
          subst h3
          unfold kindR
          (repeat' split) <;> omega
        · rw [e] at h
          injection h with h3 _
          subst h3
          unfold kindR
          (repeat' split) <;> omega)
      have hfacts : (m = 0) ∨ (∃ bb oo cn, bA = some ⟨bb, oo, none⟩ ∧ w2.cell? ⟨bb, oo, none⟩ = some (.int .u8 (cn : Int)) ∧ 0 < m ∧ ((¬ (32 : Int) ≤ (cn : Int)) ∨ ((32 : Int) ≤ (cn : Int) ∧ ¬ (cn : Int) < 64))) := by
        rcases hcase with h | ⟨c', r', h, h2⟩ | ⟨c', r', h, h2⟩
        · exact .inl h
        · obtain ⟨bb, oo, h5, h6, h7⟩ := hcell c' r' h
          exact .inr ⟨bb, oo, (c'.toNat : Int), h5, h6, h7, .inl (by omega)⟩
        · obtain ⟨bb, oo, h5, h6, h7⟩ := hcell c' r' h
          exact .inr ⟨bb, oo, (c'.toNat : Int), h5, h6, h7, .inr ⟨by omega, by omega⟩⟩
      clear hcase hcell
      obtain ⟨bx, hbx⟩ : ∃ bx : BSl, bx = ⟨bA, bc, bl⟩ := ⟨_, rfl⟩
      have HBX := Lib.hid hbx
      have HBB : Hid (bx.Ok w ∧ bx.l = bl ∧ bx.c = bc) := Lib.hid (by subst hbx; exact ⟨HB.out, rfl, rfl⟩)
      clear hbx
      have HX1 := Lib.hid (fun W dd pp ff qq v fs lm dead (h : E8 w W dd pp ff qq v fs lm most dead) => e8_decode h a HA.out (by have := HLA.out.1; omega))
      have HX2 := Lib.hid (fun W dd pp ff qq v fs lm dead (h : E8 w W dd pp ff qq v fs lm most dead) => e8_decode h ⟨bA, bc, bl⟩ HB.out (by have := HLA.out.2; simp only; omega))
      simp only at HX1 HX2
      rw [HN.out] at HX1
      rw [HM.out] at HX2
      unfold E8P at HX1 HX2
      have hgoal : ∀ (X : Prop), X → X := fun _ h => h
      rcases hfacts with hm0 | ⟨bb, oo, cn, hbA, h4, hmp, hc | ⟨hc, hc2⟩⟩
      all_goals
        try (have hmp2 : (0 : Int) < (m : Int) := by omega
             have hmp3 : decide ((0 : Int) < (m : Int)) = true := decide_eq_true hmp2
             have hmp4 : decide (0 < m) = true := decide_eq_true hmp)
        try (obtain rfl : bA = _ := hbA)
        try subst hm0
        go_upto_region 3 with fail
        try clear h4
        go_wp2_with fail
        with_reducible refine (HNW.out _ HF2.out).mono ?_
        rintro e w3 ⟨d, p, rfl, hs3, hf3, _, _⟩
        have HS3 := Lib.hid hs3
        clear hs3 hf3
        go_wp2_with fail
        with_reducible refine (HNW.out _ HS3.out.fr).mono ?_
        rintro e w4 ⟨f, q, rfl, hs4, hf4, hf5, hq5⟩
        have HE4 : Hid (E8 w w4 d p f q (.slice none 0 0) [] most most false) := Lib.hid ⟨HS3.out.fresh hf4, hs4, by have := HS3.out.dec.blk.lt; omega, by have := HS3.out.dec.blk.lt; omega, by have := HS3.out.dec.tab.blk.lt; omega, by have := HS3.out.dec.tab.blk.lt; omega, fun k hk => by cases hk⟩
        clear hs4 hf4 hf5 hq5 HS3 HNW
        have HD1 := Lib.hid (HX1.out _ d p f q _ _ _ _ HE4.out)
        have hinv1 := rd7_inv HE4.out.a a.l
        obtain ⟨R1, hR1⟩ : ∃ R1, rd7 most 16384 false [] most a.l = R1 := ⟨_, rfl⟩
        rw [hR1] at HD1 hinv1
        have HR1 := Lib.hid hR1
        have HI1 := Lib.hid hinv1
        clear hR1 hinv1 HX1
        obtain ⟨er1, x, fs1, lm1⟩ := R1
        simp only at HD1
        go_wp2_with fail
        with_reducible refine HD1.out.mono ?_
        rintro e w5 ⟨A5, c5, v5, rfl, hl5, he5, _⟩
        have HL5 := Lib.hid hl5
        have HE5 := Lib.hid he5
        clear hl5 he5 HD1
        have HD2 := Lib.hid (HX2.out _ d p f q _ _ _ _ HE5.out)
        obtain ⟨R2, hR2⟩ : ∃ R2, rd7 most 16384 (decide (er1 ≠ 0)) fs1 lm1 bl = R2 := ⟨_, rfl⟩
        have hinv2 := rd7_inv HE5.out.a bl
        rw [hR2] at HD2 hinv2
        have HR2 := Lib.hid hR2
        have HI2 := Lib.hid hinv2
        clear hR2 hinv2 HX2
        obtain ⟨er2, y, fs2, lm2⟩ := R2
        simp only at HD2
        generalize decide (er1 ≠ 0) = dd1 at HD2 HE5
        go_wp2_with fail
        with_reducible refine HD2.out.mono ?_
        rintro e w6 ⟨A6, c6, v6, rfl, hl6, he6, hf6⟩
        have HL6 := Lib.hid hl6
        have HE6 := Lib.hid he6
        have HLX6 := Lib.hid (Lns.far hf6 HL5.out)
        clear hl6 he6 hf6 HD2 HL5
        by_cases hz1 : er1 = 0
        · by_cases hz2 : er2 = 0
          · subst hz1 hz2
            rw [show ((0 : Nat) : Int) = 0 from rfl]
            obtain ⟨vB, wB, hap1, hown1, hbel1⟩ : ∃ (A' : Option Addr × Nat) (w' : World), (Builtin.append_ #[34, 34] 34 #[.slice (some ⟨w6.heap.size, 0, none⟩) 0 0, .slice a.A n a.c]).run Try.prog (w6.alloc (.cells #[] 5)) = .ok (.slice A'.1 n A'.2) w' ∧ Own w' w6.heap.size 5 1 (.slice A'.1 n A'.2) n (a.l.map byteV) ∧ Below w6.heap.size w6 w' := by
              have ho : Own (w6.alloc (.cells #[] 5)) w6.heap.size 5 1 (.slice (some ⟨w6.heap.size, 0, none⟩) 0 0) 0 (([] : List UInt8).map byteV) := Own.lit (Nat.le_refl _) (by unfold maxLen; omega) rfl
              obtain ⟨A', c', w', h1, h2, h3, _⟩ := Own.moreN (P := Try.prog) Try.underlying34 (by kernel_rfl) 34 ho (Fresh.alloc w6 (.cells #[] 5)) (Nat.le_refl _) a.A a.c a.l n n HN.out (by omega) ((HA.out.bs.fresh HE6.out.a.fr).fresh (Fresh.alloc _ _)) (by rw [← HN.out]; exact HA.out.le) (by have := HLA.out.1; have := HN.out; omega)
              exact ⟨(A', c'), w', h1, by simpa using h2, h3⟩
            obtain ⟨vC, wC, hap2, hown2, hbel2⟩ : ∃ (A' : Option Addr × Nat) (w' : World), (Builtin.append_ #[34, 34] 34 #[.slice vB.1 n vB.2, .slice bx.A bl.length bc]).run Try.prog wB = .ok (.slice A'.1 (n + bl.length) A'.2) w' ∧ Own w' w6.heap.size 5 1 (.slice A'.1 (n + bl.length) A'.2) (n + bl.length) ((a.l ++ bl).map byteV) ∧ Below w6.heap.size w6 w' := by
              obtain ⟨A', c', w', h1, h2, h3, _⟩ := Own.moreN (P := Try.prog) Try.underlying34 (by kernel_rfl) 34 hown1 hbel1 (Nat.le_refl _) bx.A bc bl bl.length (n + bl.length) rfl rfl (by have h := (HBB.out.1.bs.fresh HE6.out.a.fr).fresh hbel1; rw [HBB.out.2.1] at h; exact h) (by have h := HBB.out.1.le; rw [HBB.out.2.1, HBB.out.2.2] at h; exact h) (by have := HLA.out.1; have := HLA.out.2; have := HN.out; omega)
              exact ⟨(A', c'), w', h1, h2, h3⟩
            obtain ⟨A8, c8⟩ := vB
            obtain ⟨A9, c9⟩ := vC
            simp only at hap1 hap2 hown1 hown2
            obtain ⟨nm, hnm⟩ : ∃ nm, n + bl.length = nm := ⟨_, rfl⟩
            have HNM := Lib.hid hnm
            rw [hnm] at hap2 hown2
            clear hnm
            rw [show bx.A = _ from congrArg BSl.A HBX.out, HM.out] at hap2
            simp only at hap2
            have hs9 : S7 w wC f q (.slice none 0 0) [] most most 16384 false := HE6.out.b.fresh hbel2
            have hl9 : (a.l ++ bl).length = nm := by rw [List.length_append, HN.out]; exact HNM.out
            have hbs9 := hown2.bytes.1
            obtain ⟨A9', c9', e9, hle9, hmx9, hat9⟩ := hown2.slice
            injection e9 with e91 e92 e93
            subst e91 e93
            have HD3 := s7_decodeQ hs9 A9 c9 (a.l ++ bl) (by rw [hl9]; exact hle9) hmx9 hbs9 (HE6.out.b.notNewE (W := wC) (g := 0) (fun b o e => (hat9 b o e).1)).1 (by rw [hl9]; have := HLA.out; have := HN.out; have := HNM.out; omega)
            rw [hl9] at HD3
            have HTW := Lib.hid (rd7_two HR1.out (by have := HR2.out; simpa using this) HK2.out HI1.out.sum)
            have HX3 := Lib.hid HI1.out.sum
            have HY3 := Lib.hid HI2.out.sum
            simp only at HX3 HY3
            obtain ⟨R3, hR3⟩ : ∃ R3, rd7 most 16384 false [] most (a.l ++ bl) = R3 := ⟨_, rfl⟩
            rw [hR3] at HTW HD3
            clear hR3
            obtain ⟨er3, z, fs3, lm3⟩ := R3
            simp only at HTW HD3
            unfold Dec7Q at HD3
            have HD3 := Lib.hid HD3
            have HLX9 := Lib.hid (HLX6.out.fresh hbel2)
            have HLY9 := Lib.hid (HL6.out.fresh hbel2)
            have HEA9 := Lib.hid (HE6.out.a.fresh hbel2)
            have HE9 := Lib.hid HE6.out
            clear hown1 hown2 hbel1 hs9 hbs9 hle9 hmx9 hat9 hl9
            go_wp2_with (first | (at_builtin; with_reducible refine wp_app rfl (.tmp 91) (.tmp 92) _ rfl hap1 rfl rfl rfl ?_) | (at_builtin; with_reducible refine wp_app rfl (.tmp 93) (.tmp 94) _ rfl hap2 rfl rfl rfl ?_) | fail)
            with_reducible refine HD3.out.mono ?_
            rintro e w7 ⟨A7, c7, v7, rfl, hl7, hs7, hf7, ho7, _⟩
            have HL7 := Lib.hid hl7
            have HS7 := Lib.hid hs7
            have HLX7 := Lib.hid (Lns.far hf7 HLX9.out)
            have HLY7 := Lib.hid (Lns.far hf7 HLY9.out)
            have HEA7 : Hid (S7 w w7 d p v6 fs2 lm2 most 16384 (decide (0 ≠ 0))) := Lib.hid (HEA9.out.apart ho7 HE6.out.b.low (by
              have h1 := HE9.out.df
              have h2 := HE9.out.dq
              rintro (e | e | e)
              · omega
              · omega
              · cases e) (by
              have h1 := HE9.out.pf
              have h2 := HE9.out.pq
              rintro (e | e | e)
              · omega
              · omega
              · cases e) (fun k hk => by
              have h1 := HE9.out.vf k hk
              rintro (e | e | e)
              · exact h1.1 e
              · exact h1.2 e
              · cases e))
            clear hl7 hs7 hf7 ho7 HD3 HEA9 HLX9 HLY9 HE9 HBX HNM hap1 hap2 hbel2
            obtain ⟨nx, hnx⟩ : ∃ nx, x.length = nx := ⟨_, rfl⟩
            obtain ⟨ny, hny⟩ : ∃ ny, y.length = ny := ⟨_, rfl⟩
            have HNX := Lib.hid hnx
            have HNY := Lib.hid hny
            have hnx5 : nx ≤ 512 := by
              have h1 := tz_lenD (x.map (·.1))
              rw [List.length_map, hnx] at h1
              have := HX3.out
              omega
            have hny5 : ny ≤ 512 := by
              have h1 := tz_lenD (y.map (·.1))
              rw [List.length_map, hny] at h1
              have := HY3.out
              omega
            obtain ⟨⟨AB, cB⟩, wB7, hap3, hown3, hbel3⟩ : ∃ (A' : Option Addr × Nat) (w' : World), (Builtin.append_ #[35, 35] 35 #[.slice (some ⟨w7.heap.size, 0, none⟩) 0 0, .slice A5 nx c5]).run Try.prog (w7.alloc (.cells #[] 51)) = .ok (.slice A'.1 nx A'.2) w' ∧ Own w' w7.heap.size 51 3 (.slice A'.1 nx A'.2) nx (rowL x) ∧ Below w7.heap.size w7 w' := by
              have ho : Own (w7.alloc (.cells #[] 51)) w7.heap.size 51 3 (.slice (some ⟨w7.heap.size, 0, none⟩) 0 0) 0 (rowL []) := Own.lit (Nat.le_refl _) (by unfold maxLen; omega) rfl
              obtain ⟨A', c', w', h1, h2, h3⟩ := moreLd ho (Fresh.alloc w7 (.cells #[] 51)) (Nat.le_refl _) A5 c5 x (HLX7.out.rows.fresh (Fresh.alloc _ _)) (by omega)
              rw [hnx, Nat.zero_add] at h1 h2
              exact ⟨(A', c'), w', h1, by simpa using h2, h3⟩
            obtain ⟨⟨AC, cC⟩, wC7, hap4, hown4, hbel4⟩ : ∃ (A' : Option Addr × Nat) (w' : World), (Builtin.append_ #[35, 35] 35 #[.slice AB nx cB, .slice A6 ny c6]).run Try.prog wB7 = .ok (.slice A'.1 (nx + ny) A'.2) w' ∧ Own w' w7.heap.size 51 3 (.slice A'.1 (nx + ny) A'.2) (nx + ny) (rowL (x ++ y)) ∧ Below w7.heap.size w7 w' := by
              obtain ⟨A', c', w', h1, h2, h3⟩ := moreLd hown3 hbel3 (Nat.le_refl _) A6 c6 y (HLY7.out.rows.fresh hbel3) (by omega)
              rw [hny] at h1 h2
              exact ⟨(A', c'), w', h1, h2, h3⟩
            simp only at hap3 hap4 hown4
            have hxy : (x ++ y).length = nx + ny := by rw [List.length_append, hnx, hny]
            have HMF := own_manyL hown4
            have HFL := de_fields AC cC (x ++ y) wC7 HMF (by rw [hxy]; omega)
            unfold FldsP at HFL
            rw [hxy] at HFL
            have HFL := Lib.hid HFL
            have HBL := Lib.hid hbel4
            rw [hnx, hny]
            clear hown3 hbel3 hown4 hbel4 hxy HMF hnx hny
            obtain ⟨nz, hnz⟩ : ∃ nz, nx + ny = nz := ⟨_, rfl⟩
            have HNZ := Lib.hid hnz
            rw [hnz] at hap4 HFL
            clear hnz
            go_wp2_with (first | (at_builtin; with_reducible refine wp_app rfl (.tmp 99) (.tmp 100) _ rfl hap3 rfl rfl rfl ?_) | (at_builtin; with_reducible refine wp_app rfl (.tmp 101) (.tmp 102) _ rfl hap4 rfl rfl rfl ?_) | fail)
            with_reducible refine HFL.out.mono ?_
            rintro e w8 ⟨fp, rfl, hfp, hmf, hf8⟩
            have HMF := Lib.hid hmf
            have HF8 : Hid (Fresh w7 w8) := Lib.hid (Fresh.trans HBL.out hf8)
            have HML : Hid (((x ++ y).map (·.1)).length = nz) := Lib.hid (by rw [List.length_map, List.length_append, HNX.out, HNY.out]; exact HNZ.out)
            have HTZ : Hid (tz ((x ++ y).map (·.1)) = tz (x.map (·.1)) + tz (y.map (·.1))) := Lib.hid (by rw [List.map_append]; unfold tz; rw [List.map_append, List.sum_append])
            have HSUM : Hid (tz ((x ++ y).map (·.1)) ≤ 32768) := Lib.hid (by rw [HTZ.out]; have := HX3.out; have := HY3.out; omega)
            clear hfp hmf hf8 HBL HFL
            obtain ⟨ff, hff⟩ : ∃ ff, (x ++ y).map (·.1) = ff := ⟨_, rfl⟩
            rw [hff] at HMF HML HTZ HSUM
            clear hff
            go_wp2_with fail
            go_loopw [17, 106] (fun s i wr => ∃ j : Nat, j ≤ nz ∧ i = .int .i64 (j : Int) ∧ s = .int .i64 (tz (ff.take j) : Int) ∧ Fresh w8 wr) (fun s i _ => nz - (intOf i).toNat)
            case atStart => exact ⟨0, Nat.zero_le _, rfl, rfl, Fresh.refl _⟩
            case round =>
              obtain ⟨j, hj, rfl, rfl, hf⟩ := hrel
              have HF := Lib.hid hf
              clear hf
              by_cases hjl : j < nz
              · obtain ⟨g, hfj⟩ : ∃ f, ff[j]? = some f := ⟨_, List.getElem?_eq_getElem (by rw [HML.out]; exact hjl)⟩
                obtain ⟨hj1, _, hj2, hj3, hj4⟩ := bd_nums2 hfj HML.out HSUM.out
                obtain ⟨q', o', hq, hqb, hq0, hq1⟩ := HMF.out.atD2 j g hfj
                injection hq with hq
                injection hq with hq2 hq3
                subst hq2 hq3
                rw [Nat.zero_add] at hq0 hq1
                have hq0 := (HF.out.cell (p := ⟨fp, j * 2, none⟩) hqb).trans hq0
                have hq1 := (HF.out.cell (p := ⟨fp, j * 2 + 1, none⟩) hqb).trans hq1
                have HSZ := Lib.hid (fun W => dy_size g W hj3)
                obtain ⟨F1, F2⟩ := g
                simp only at hq0 hq1 HSZ
                clear hfj hj3 hqb
                generalize fz (F1, F2) = zf at *
                generalize tz (ff.take j) = t0 at *
                generalize ht1 : tz (ff.take (j + 1)) = t1 at *
                go_upto_region 16 with fail
                refine wp_gen (fun W => Blk W wr.heap.size 46 #[.string F1, .string F2] ∧ Fresh wr W) ⟨Blk.new _ _ _, Fresh.alloc _ _⟩ ?_
                rintro W7 ⟨hb7, hf7⟩
                obtain ⟨x0, x1⟩ := hb7.c2
                have HF7 := Lib.hid (HF.out.trans hf7)
                clear hb7 hf7 hq0 hq1
                go_wp2_with fail
                with_reducible refine (HSZ.out _).mono ?_
                rintro e w8' ⟨rfl, hf8⟩
                have HF8' := Lib.hid (HF7.out.trans hf8)
                clear hf8
                go_wp2
                exact ⟨⟨j + 1, by omega, by go_num, by rw [ht1], HF8'.out⟩, by simp [intOf]; omega⟩
              · obtain rfl : j = nz := by omega
                have hnj : ¬ (j : Int) < (j : Int) := by omega
                have HF9 := Lib.hid (HF8.out.trans HF.out)
                have HS9 := Lib.hid (HS7.out.fresh HF9.out)
                have HEA9 := Lib.hid (HEA7.out.fresh HF9.out)
                have HLX9 := Lib.hid (HLX7.out.fresh HF9.out)
                have HLY9 := Lib.hid (HLY7.out.fresh HF9.out)
                have HLZ9 := Lib.hid (HL7.out.fresh HF9.out)
                have HTF : Hid (tz (ff.take j) = tz (x.map (·.1)) + tz (y.map (·.1))) := Lib.hid (by rw [List.take_of_length_le (by rw [HML.out]; exact Nat.le_refl _)]; exact HTZ.out)
                clear HS7 HEA7 HLX7 HLY7 HL7 HMF
                obtain ⟨tt, htt⟩ : ∃ tt, tz (ff.take j) = tt := ⟨_, rfl⟩
                rw [htt] at HTF ⊢
                clear htt
                rw [← HTF.out] at HTW
                by_cases hbig : 16384 < tt
                · have hbig' : (16384 : Int) < (tt : Int) := by omega
                  obtain rfl : er3 = 22 := HTW.out.2 hbig'
                  rw [show ((22 : Nat) : Int) = 22 from rfl]
                  clear HTW hbig
                  go_wp2_with fail
                  with_reducible refine (HW.out _).mono ?_
                  rintro e wa ⟨rfl, hfa⟩
                  have HFa := Lib.hid (HS9.out.fr.trans hfa)
                  clear hfa
                  go_wp2
                  exact HFIN.out _ HFa.out
                · have hbig' : decide ((16384 : Int) < (tt : Int)) = false := decide_eq_false (by omega)
                  have h3 := HTW.out.1 (by omega)
                  simp only [Prod.mk.injEq] at h3
                  obtain ⟨rfl, rfl, rfl, rfl⟩ := h3
                  rw [show ((0 : Nat) : Int) = 0 from rfl]
                  clear HTW hbig
                  have hxy : (x ++ y).length = j := by rw [List.length_append, HNX.out, HNY.out]; exact HNZ.out
                  rw [hxy]
                  have HXY := Lib.hid hxy
                  have hnz : (nx : Int) + (ny : Int) = (j : Int) := by have := HNZ.out; omega
                  have hnw : IntKind.i64.wrap ((nx : Int) + (ny : Int)) = (j : Int) := by rw [hnz]; exact IntWalk.i64_in _ (by omega)
                  have hjj : ((j : Int) != (j : Int)) = false := by simp
                  have HTA := Lib.hid (fun W (hf : Fresh wr W) => de_table w.heap.size d p v6 _ _ most 16384 _ W (HEA9.out.dec.fresh hf) (Nat.le_trans HEA9.out.fr.size hf.size) HEA9.out.len)
                  have HTB := Lib.hid (fun W (hf : Fresh wr W) => de_table w.heap.size f q v7 _ _ most 16384 _ W (HS9.out.dec.fresh hf) (Nat.le_trans HS9.out.fr.size hf.size) HS9.out.len)
                  unfold CpyP at HTA HTB
                  clear hxy
                  go_wp2_with fail
                  with_reducible refine (HTA.out _ (Fresh.refl _)).mono ?_
                  rintro e wa ⟨pa, va, rfl, _, hfa, _, _⟩
                  have HFa := Lib.hid hfa
                  clear hfa
                  go_wp2_with fail
                  with_reducible refine (HTB.out _ HFa.out).mono ?_
                  rintro e wb ⟨pb, vb, rfl, _, hfb, _, _⟩
                  have HFb := Lib.hid (HFa.out.trans hfb)
                  clear hfb
                  go_wp2_with fail
                  with_reducible refine (HTA.out _ HFb.out).mono ?_
                  rintro e wc ⟨pc, vc, rfl, htc, hfc, _, _⟩
                  have HFc := Lib.hid (HFb.out.trans hfc)
                  have HSc := Lib.hid (dy_sizeT htc)
                  clear hfc htc
                  go_wp2_with fail
                  with_reducible refine HSc.out.mono ?_
                  rintro e wd ⟨rfl, hw⟩
                  obtain rfl : wc = wd := hw.symm
                  go_wp2_with fail
                  with_reducible refine (HTB.out _ HFc.out).mono ?_
                  rintro e wd ⟨pd, vd, rfl, htd, hfd, _, _⟩
                  have HFd := Lib.hid (HFc.out.trans hfd)
                  have HSd := Lib.hid (dy_sizeT htd)
                  clear hfd htd
                  go_wp2_with fail
                  with_reducible refine HSd.out.mono ?_
                  rintro e we ⟨rfl, hw⟩
                  obtain rfl : wd = we := hw.symm
                  have htt : ((tz fs3 : Int) != (tz fs3 : Int)) = false := by simp
                  have HLX := Lib.hid (HLX9.out.fresh HFd.out)
                  have HLY := Lib.hid (HLY9.out.fresh HFd.out)
                  have HLZ := Lib.hid (HLZ9.out.fresh HFd.out)
                  clear HTA HTB HLX9 HLY9 HLZ9 HFa HFb HFc HSc HSd
                  go_wp2_with fail
                  go_loopw [155] (fun i wr => ∃ u : Nat, u ≤ j ∧ i = .int .i64 (u : Int) ∧ Fresh wd wr) (fun i _ => j - (intOf i).toNat)
                  case atStart => exact ⟨0, Nat.zero_le _, rfl, Fresh.refl _⟩
                  case round =>
                    obtain ⟨u, hu, rfl, hf⟩ := hrel
                    have HFJ := Lib.hid hf
                    clear hf
                    by_cases huj : u < j
                    · have huj' : (u : Int) < (j : Int) := by omega
                      obtain ⟨bz, oz, rfl, hbz, z0, z1, z2⟩ := (HLZ.out.rows.fresh HFJ.out).lnAt u _ (List.getElem?_eq_getElem (by rw [HXY.out]; exact huj))
                      obtain ⟨g, hg⟩ : ∃ g, (x ++ y)[u]? = some g := ⟨_, List.getElem?_eq_getElem (by rw [HXY.out]; exact huj)⟩
                      have hge : (x ++ y)[u]'(by rw [HXY.out]; exact huj) = g := by
                        have := List.getElem?_eq_getElem (l := x ++ y) (i := u) (by rw [HXY.out]; exact huj)
                        rw [hg] at this
                        injection this with h
                        exact h.symm
                      rw [hge] at z0 z1 z2
                      clear hge
                      by_cases hux : u < nx
                      · rw [List.getElem?_append_left (by rw [HNX.out]; exact hux)] at hg
                        obtain ⟨b2, o2, rfl, hb2, k0, k1, k2⟩ := (HLX.out.rows.fresh HFJ.out).lnAt u g hg
                        obtain ⟨⟨F1, F2⟩, nv⟩ := g
                        simp only at z0 z1 z2 k0 k1 k2
                        have hE := run_eq_line F1 F2 nv
                        have d1 : decide ((u : Int) < (nx : Int)) = true := decide_eq_true (by omega)
                        have d2 : decide (u < nx) = true := decide_eq_true hux
                        have d3 : decide ((nx : Int) ≤ (u : Int)) = false := decide_eq_false (by omega)
                        have d4 : decide (nx ≤ u) = false := decide_eq_false (by omega)
                        clear hbz hb2 hg
                        go_upto_region 25 with fail
                        go_quiet (fail)
                        all_goals
                          go_wp2
                          go_roundw
                          case rel => exact ⟨u + 1, by omega, by go_num, HFJ.out.trans (Fresh.drewN _ _)⟩
                          case measure => simp [intOf]; omega
                      · rw [List.getElem?_append_right (by rw [HNX.out]; omega), HNX.out] at hg
                        obtain ⟨b2, o2, rfl, hb2, k0, k1, k2⟩ := (HLY.out.rows.fresh HFJ.out).lnAt (u - nx) g hg
                        obtain ⟨⟨F1, F2⟩, nv⟩ := g
                        simp only at z0 z1 z2 k0 k1 k2
                        have hE := run_eq_line F1 F2 nv
                        obtain ⟨q5, hq5⟩ : ∃ q5, u - nx = q5 := ⟨_, rfl⟩
                        rw [hq5] at k0 k1 k2
                        have hq6 : (u : Int) - (nx : Int) = (q5 : Int) := by omega
                        have hq7 : q5 < ny := by have := HNZ.out; omega
                        have hq8 : (q5 : Int) < (ny : Int) := by omega
                        have hq9 : IntKind.i64.wrap ((u : Int) - (nx : Int)) = (q5 : Int) := by rw [hq6]; exact IntWalk.i64_in _ (by omega)
                        have d1 : decide ((u : Int) < (nx : Int)) = false := decide_eq_false (by omega)
                        have d2 : decide (u < nx) = false := decide_eq_false hux
                        have d3 : decide ((nx : Int) ≤ (u : Int)) = true := decide_eq_true (by omega)
                        have d4 : decide (nx ≤ u) = true := decide_eq_true (by omega)
                        clear hbz hb2 hg hq5
                        go_upto_region 25 with fail
                        go_quiet (fail)
                        all_goals
                          go_wp2
                          go_roundw
                          case rel => exact ⟨u + 1, by omega, by go_num, HFJ.out.trans (Fresh.drewN _ _)⟩
                          case measure => simp [intOf]; omega
                    · obtain rfl : u = j := by omega
                      have hnj : ¬ (u : Int) < (u : Int) := by omega
                      go_wp2_with fail
                      with_reducible refine (HW.out _).mono ?_
                      rintro e wz ⟨rfl, hfz⟩
                      have HFz := Lib.hid (((HS9.out.fr.trans HFd.out).trans HFJ.out).trans hfz)
                      clear hfz
                      go_wp2
                      exact HFIN.out _ HFz.out
          · obtain ⟨k1, k2⟩ : (((er2 : Nat) : Int) != 0) = true ∧ ¬ (er2 : Int) = 0 := ⟨by simp; omega, by omega⟩
            subst hz1
            rw [show ((0 : Nat) : Int) = 0 from rfl]
            go_wp2_with fail
            with_reducible refine (HW.out _).mono ?_
            rintro e w7 ⟨rfl, hf7⟩
            have HF7 := Lib.hid (HE6.out.a.fr.trans hf7)
            clear hf7
            go_wp2
            exact HFIN.out _ HF7.out
        · obtain ⟨k1, k2⟩ : (((er1 : Nat) : Int) != 0) = true ∧ ¬ (er1 : Int) = 0 := ⟨by simp; omega, by omega⟩
          go_wp2_with fail
          with_reducible refine (HW.out _).mono ?_
          rintro e w7 ⟨rfl, hf7⟩
          have HF7 := Lib.hid (HE6.out.a.fr.trans hf7)
          clear hf7
          go_wp2
          exact HFIN.out _ HF7.out
    · obtain ⟨bb, oo, rfl, h4, hmp⟩ := hcell c r hbl
      have hmp2 : (0 : Int) < (m : Int) := by omega
      have hmp3 : decide ((0 : Int) < (m : Int)) = true := decide_eq_true hmp2
      have hmp4 : decide (0 < m) = true := decide_eq_true hmp
      have e1 : (32 : Int) ≤ (c.toNat : Int) := by omega
      have e2 : (c.toNat : Int) < 64 := by omega
      clear hcell hbl
      generalize c.toNat = cn at *
      go_wp2_with fail
      with_reducible refine (HW.out _).mono ?_
      rintro e w3 ⟨rfl, hf3⟩
      have HF3 := Lib.hid (HF2.out.trans hf3)
      clear hf3
      go_wp2
      exact HFIN.out _ HF3.out
end Go.Proofs.Ytffdhegflnhfjaa

