/-
  The law LitRow.
-/
import Derived.Test.YtkdbndgkgpcmfaaLitI
import Derived.Test.YtkdbndgkgpcmfaaShapeW
namespace Go.Proofs.Ytkdbndgkgpcmfaa
set_option maxRecDepth 100000
set_option linter.unusedVariables false
set_option linter.unusedSimpArgs false
open Go.RowKit Go.ChangeShapes Go.WideShapes
/-- A slice of truths that came in. -/
structure BoolsV where
  (A : Option Addr) (c : Nat) (zs : List Bool)
def cellBo (z : Bool) : List Value := [.bool z]
structure BoolsV.Ok (w : World) (s : BoolsV) : Prop where
  le : s.zs.length ≤ s.c
  max : s.c ≤ maxLen
  rows : Many cellBo 1 w s.A s.zs
section
variable {H : Type} {enc : TypeId × Value → H} {w : World} {base : Nat} {spare : Nat → Bool} {held : Bool} {v : Value} {d : DataW H} {p : List MemPlace} {r : Reach} {b0 : Nat}
theorem open_bools (hv : Value.okWide Try.prog w r b0 40 v) (hd : DataW.Trod enc Try.prog w base spare held 40 v d p) :
    ∃ s : BoolsV, v = .slice s.A s.zs.length s.c ∧ s.Ok w := by
  have h := (opens_slice (sz := 1) Try.underlying40 (opens_bool Try.underlying4) (by kernel_rfl) (by omega)).sl Try.underlying40 hv hd
  obtain ⟨A, xs, c, e, h1, h2, h3, h4⟩ := h.rows (R := fun _ (z : Bool) => True) (f := cellBo) (fun _ ⟨z, e⟩ => ⟨z, e, trivial⟩)
  simp at e
  exact ⟨⟨A, c, xs⟩, e, h1, h2, h3⟩
end
/-- The texts' bytes one behind the other. -/
def RowLit : List (BSl × Bool) → List UInt8 → Prop
  | [], F => F = []
  | (x, b) :: r, F => ∃ P F', IsLit x.l b P ∧ RowLit r F' ∧ F = P ++ F'
theorem RowLit.snoc : ∀ {r : List (BSl × Bool)} {F P : List UInt8} {x : BSl} {b : Bool}, RowLit r F → IsLit x.l b P → RowLit (r ++ [(x, b)]) (F ++ P)
  | [], F, P, x, b, h, hp => by
    have h2 : F = [] := h
    subst h2
    exact ⟨P, [], hp, rfl, by simp⟩
  | (y, c) :: r, F, P, x, b, h, hp => by
    obtain ⟨Q, F', hq, hr, rfl⟩ := h
    exact ⟨Q, F' ++ P, hq, RowLit.snoc hr hp, by rw [List.append_assoc]⟩
set_option maxRecDepth 100000 in
set_option maxHeartbeats 6400000 in
theorem LitRow_any (s : BSls) (t : BoolsV) (w : World) (hs : s.Ok w) (ht : t.Ok w) :
    Calls Try.prog 7 #[.slice s.A s.xs.length s.c, .slice t.A t.zs.length t.c] w fun e w' => e = .returned (.bool true) ∧ Below w.heap.size w w' := by
  have HW := Lib.hid lit_awake
  have HSO := Lib.hid hs
  have HTO := Lib.hid ht
  obtain ⟨SA, sc, xs⟩ := s
  obtain ⟨TA, tc, bs⟩ := t
  simp only at *
  obtain ⟨n, hn⟩ : ∃ n, xs.length = n := ⟨_, rfl⟩
  obtain ⟨m, hm⟩ : ∃ m, bs.length = m := ⟨_, rfl⟩
  have HN := Lib.hid hn
  have HM := Lib.hid hm
  have hle : n ≤ 9000000000000000 := by have h1 := hs.le; have h2 := hs.max; simp only at h1 h2; omega
  have hle2 : m ≤ 9223372036854775807 := by have h1 := ht.le; have h2 := ht.max; unfold maxLen at h2; simp only at h1 h2; omega
  rw [hn, hm]
  clear hs ht hn hm
  by_cases h10 : 10 < n
  · have h10' : (10 : Int) < (n : Int) := by omega
    have h10d : decide ((10 : Int) < (n : Int)) = true := by simpa using h10'
    go_enter Try.func7, Try.ntmps7
    go_wp2_with (go_at_call 8; with_reducible refine (HW.out _).mono ?_; rintro e w6 ⟨rfl, hf6⟩)
    go_ret
    exact ⟨rfl, hf6⟩
  have h10' : ¬ (10 : Int) < (n : Int) := by omega
  have h10d : decide ((10 : Int) < (n : Int)) = false := by simpa using h10'
  by_cases hmn : m < n
  · have hmn' : (m : Int) < (n : Int) := by omega
    have hmnd : decide ((m : Int) < (n : Int)) = true := by simpa using hmn'
    go_enter Try.func7, Try.ntmps7
    go_wp2_with (go_at_call 8; with_reducible refine (HW.out _).mono ?_; rintro e w6 ⟨rfl, hf6⟩)
    go_ret
    exact ⟨rfl, hf6⟩
  have hmn' : ¬ (m : Int) < (n : Int) := by omega
  have hmnd : decide ((m : Int) < (n : Int)) = false := by simpa using hmn'
  obtain ⟨zs, hzs⟩ : ∃ zs, xs.zip bs = zs := ⟨_, rfl⟩
  have HZL : Hid (zs.length = n) := Lib.hid (by rw [← hzs, List.length_zip, HN.out, HM.out]; omega)
  have HZ : Hid (∀ (k : Nat) (h1 : k < xs.length) (h2 : k < bs.length), zs[k]? = some (xs[k], bs[k])) := Lib.hid (fun k h1 h2 => by
    subst hzs
    rw [List.getElem?_zip_eq_some]
    exact ⟨List.getElem?_eq_getElem h1, List.getElem?_eq_getElem h2⟩)
  clear hzs
  go_enter Try.func7, Try.ntmps7
  go_wp2
  go_loopw [5, 28] (fun all i wr => ∃ (k : Nat) (F : List UInt8), k ≤ n ∧ i = .int .i64 (k : Int) ∧ F.length ≤ 406 * k ∧ Own wr w.heap.size 5 1 all F.length (F.map byteV) ∧ RowLit (zs.take k) F ∧ (∀ j (hj : j < xs.length), j < k → (xs[j]).l.length ≤ 100) ∧ Fresh w wr) (fun _ i _ => n - (intOf i).toNat)
  case atStart => exact ⟨0, [], by omega, rfl, by simp, Own.nil _ _ _ _, by rw [List.take_zero]; rfl, fun j _ h => by omega, Fresh.refl _⟩
  case round =>
    obtain ⟨k, F, hk, rfl, hFl, hown, hrow, hsm, hf⟩ := hrel
    have HOWN := Lib.hid hown
    have HROW := Lib.hid hrow
    have HSM := Lib.hid hsm
    have HF := Lib.hid hf
    obtain ⟨A0, c0, rfl, _, _, _⟩ := hown.slice
    clear hown hrow hsm hf
    by_cases hlt : k < n
    · have hlt' : (k : Int) < (n : Int) := by omega
      have h0 : (0 : Int) ≤ (k : Int) := by omega
      have hkm : (k : Int) < (m : Int) := by omega
      have hkx : k < xs.length := by rw [HN.out]; exact hlt
      have hkb : k < bs.length := by rw [HM.out]; omega
      have HZK := Lib.hid (HZ.out k hkx hkb)
      obtain ⟨bq, o, rfl, hbq, hcell⟩ := HSO.out.rows.one k xs[k] (List.getElem?_eq_getElem hkx)
      obtain ⟨bt, ot, rfl, hbt, hcellt⟩ := HTO.out.rows.one k bs[k] (List.getElem?_eq_getElem hkb)
      have hx := HSO.out.ok xs[k] (List.getElem_mem hkx)
      have HXK : Hid (∀ b : Nat, (xs[k]).l.length ≤ b → b ≤ 100 → ∀ j (hj : j < xs.length), j < k + 1 → (xs[j]).l.length ≤ 100) := Lib.hid (fun b hb hb2 j hj h => by
        by_cases e : j = k
        · subst e; omega
        · exact HSM.out j hj (by omega))
      generalize xs[k] = x at *
      generalize bs[k] = tb at *
      obtain ⟨B, bc, b⟩ := x
      have hcell2 := HF.out.cell (p := ⟨bq, o + k, none⟩) hbq
      have hcell3 := HF.out.cell (p := ⟨bt, ot + k, none⟩) hbt
      rw [hcell] at hcell2
      rw [hcellt] at hcell3
      simp only [BSl.cells, cellBo, List.getElem?_cons_zero] at hcell2 hcell3
      have HBS := Lib.hid hx.bs
      simp only at HBS HXK
      clear hx hcell hcellt
      by_cases hbl : 100 < b.length
      · have hbl' : (100 : Int) < (b.length : Int) := by omega
        generalize b.length = m2 at *
        go_wp2_with (go_at_call 8; with_reducible refine (HW.out _).mono ?_; rintro e w6 ⟨rfl, hf6⟩)
        exact bodyPost_ret (v := .bool true) (by simp [results, Try.f7, go_sem]) rfl ⟨rfl, HF.out.trans hf6⟩
      have hbl' : ¬ (100 : Int) < (b.length : Int) := by omega
      have HEN := Lib.hid (lit_encode B bc b tb wr (by omega) (HBS.out.fresh HF.out))
      have HXK2 := Lib.hid (HXK.out b.length (Nat.le_refl _) (by omega))
      have hln := (litN_le b tb (by omega)).2
      obtain ⟨z, hz⟩ : ∃ z, litN b tb = z := ⟨_, rfl⟩
      have HZZ := Lib.hid hz
      rw [hz] at hln
      have hz406 : z ≤ 406 := by omega
      clear hz hln HXK
      generalize b.length = m2 at *
      go_wp2_with fail
      with_reducible refine HEN.out.mono ?_
      rintro e w2 ⟨P, A2, c2, rfl, hP, hown2, hf2⟩
      have hPl : P.length = z := hP.len.trans HZZ.out
      obtain ⟨A3, c3, w3, hap, ho3, hb3, _⟩ := Own.moreN (P := Try.prog) Try.underlying22 u8_infoH 22 (HOWN.out.fresh hf2) (HF.out.trans hf2) (Nat.le_refl _) A2 c2 P z (F ++ P).length hPl (by rw [List.length_append, hPl]) hown2.bytes.1 (by obtain ⟨_, _, e, h1, _⟩ := hown2.slice; cases e; omega) (by rw [List.length_append]; omega)
      have HREL : Hid ((F ++ P).length ≤ 406 * (k + 1) ∧ Own w3 w.heap.size 5 1 (.slice A3 (F ++ P).length c3) (F ++ P).length ((F ++ P).map byteV) ∧ RowLit (zs.take (k + 1)) (F ++ P) ∧ Fresh w w3) := Lib.hid ⟨by rw [List.length_append]; omega, ho3, by
        have h2 := List.getElem?_eq_some_iff.1 HZK.out
        obtain ⟨h3, h4⟩ := h2
        rw [List.take_succ_eq_append_getElem h3, h4]
        exact HROW.out.snoc hP, hb3⟩
      rw [hPl]
      clear hP hown2 hf2 ho3 hb3 hPl hcell2 hcell3
      obtain ⟨r, hr⟩ : ∃ r, (F ++ P).length = r := ⟨_, rfl⟩
      have HR := Lib.hid hr
      rw [hr] at hap HREL
      clear hr
      go_wp2_with (at_builtin; refine wp_app rfl _ _ _ rfl hap rfl rfl rfl ?_)
      exact ⟨⟨k + 1, F ++ P, by omega, rfl, by rw [HR.out]; exact HREL.out.1, by rw [HR.out]; exact HREL.out.2.1, HREL.out.2.2.1, HXK2.out, HREL.out.2.2.2⟩, by simp [intOf]; omega⟩
    · have hlt' : ¬ (k : Int) < (n : Int) := by omega
      obtain rfl : k = n := by omega
      have hown := HOWN.out
      have HB := Lib.hid hown.bytes.1
      have hA0 : F.length ≤ c0 ∧ c0 ≤ maxLen := by obtain ⟨_, _, e, h1, h2, _⟩ := hown.slice; cases e; exact ⟨h1, h2⟩
      have HA0 := Lib.hid hA0
      clear hown hA0
      go_wp2
      go_loopw [5, 54] (fun all i w' => ∃ (j : Nat) (G : List UInt8) (A : Option Addr) (c : Nat), j ≤ k ∧ i = .int .i64 (j : Int) ∧ all = .slice A G.length c ∧ G.length ≤ 5000 ∧ G.length ≤ c ∧ c ≤ maxLen ∧ BS w' A G ∧ RowLit (zs.drop j) G ∧ Fresh w w') (fun _ i _ => k - (intOf i).toNat)
      case atStart => exact ⟨0, F, A0, c0, by omega, rfl, rfl, by omega, HA0.out.1, HA0.out.2, HB.out, by rw [List.drop_zero, ← List.take_of_length_le (by rw [HZL.out]; exact Nat.le_refl _ : zs.length ≤ k)]; exact HROW.out, HF.out⟩
      case round =>
        obtain ⟨j, G, A, c, hj, rfl, rfl, hG5, hGc, hcM, hbs, hrow, hf⟩ := hrel
        have HBG := Lib.hid hbs
        have HRG := Lib.hid hrow
        have HFG := Lib.hid hf
        clear hbs hrow hf
        by_cases hj2 : j < k
        · have hj2' : (j : Int) < (k : Int) := by omega
          have h0 : (0 : Int) ≤ (j : Int) := by omega
          have hjx : j < xs.length := by rw [HN.out]; exact hj2
          have hjb : j < bs.length := by rw [HM.out]; omega
          have hzj := HZ.out j hjx hjb
          obtain ⟨bq, o, rfl, hbq, hcell⟩ := HSO.out.rows.one j xs[j] (List.getElem?_eq_getElem hjx)
          have hx := HSO.out.ok xs[j] (List.getElem_mem hjx)
          have hx100 := HSM.out j hjx hj2
          have hdr : zs.drop j = (xs[j], bs[j]) :: zs.drop (j + 1) := by
            obtain ⟨h3, h4⟩ := List.getElem?_eq_some_iff.1 hzj
            rw [List.drop_eq_getElem_cons h3, h4]
          have hrg := HRG.out
          rw [hdr] at hrg
          obtain ⟨P, G', hP, hrow', rfl⟩ := hrg
          generalize xs[j] = x at *
          generalize bs[j] = tb at *
          obtain ⟨B, bc, b⟩ := x
          simp only at hP hx100
          have hcell2 := HFG.out.cell (p := ⟨bq, o + j, none⟩) hbq
          rw [hcell] at hcell2
          simp only [BSl.cells, List.getElem?_cons_zero] at hcell2
          have HBS := Lib.hid hx.bs
          simp only at HBS
          have hlr := litR_lit hP (by omega) G' 100
          rw [if_neg (by omega)] at hlr
          have HLR := Lib.hid hlr
          have hPl : P.length ≤ (P ++ G').length := by rw [List.length_append]; omega
          have hGl : G'.length = (P ++ G').length - P.length := by rw [List.length_append]; omega
          have HROW' := Lib.hid hrow'
          have HDR : Hid ((P ++ G').drop P.length = G') := Lib.hid (by simp)
          have HDE := Lib.hid (lit_decode A c (P ++ G') 100 wr (by omega) hGc hcM HBG.out)
          obtain ⟨q, hq⟩ : ∃ q, (P ++ G').length = q := ⟨_, rfl⟩
          obtain ⟨p, hp⟩ : ∃ p, P.length = p := ⟨_, rfl⟩
          rw [hq] at HDE hG5 hGc hPl hGl ⊢
          rw [hp] at HLR HDR hPl hGl
          have HGL := Lib.hid hGl
          have hct := run_cut_from (P := Try.prog) Try.underlying22 u8_sizeL A q c p hPl
          have HQ := Lib.hid hq
          clear hx hcell hdr hzj hP hrow' hlr hq hp hGl
          go_wp2_with fail
          with_reducible refine HDE.out.mono ?_
          rintro e w5 ⟨A5, c5, rfl, hown5, hf5⟩
          rw [HLR.out] at hown5 ⊢
          simp only at hown5 ⊢
          have hcv5 := run_str (P := Try.prog) hown5.bytes.1 22 9 5 Try.underlying22 Try.underlying5 Try.underlying9 c5
          have HF5 := Lib.hid (HFG.out.trans hf5)
          have hcv6 := run_str (P := Try.prog) (HBS.out.fresh HF5.out) 22 9 5 Try.underlying22 Try.underlying5 Try.underlying9 bc
          have HBC : Hid (BS w5 (cutA A p c) G') := Lib.hid (by
            have := (HBG.out.fresh hf5).cut p c (by rw [HQ.out]; exact hGc)
            rwa [HDR.out] at this)
          have HREL : Hid (q - p = G'.length) := Lib.hid HGL.out.symm
          obtain ⟨SB, hSB⟩ : ∃ SB, strB b = SB := ⟨_, rfl⟩
          rw [hSB] at hcv5 hcv6
          have e4 : (SB.toList == SB.toList) = true := beq_self_eq_true _
          have e5 : ¬ (q : Int) < (p : Int) := by omega
          rw [show ((0 : Nat) : Int) = 0 from rfl]
          clear hown5 hf5 hSB hcell2
          generalize b.length = m2 at *
          go_wp2
          exact ⟨⟨j + 1, G', cutA A p c, c - p, by omega, rfl, by rw [HREL.out], by rw [← HREL.out]; omega, by rw [← HREL.out]; omega, by omega, HBC.out, HROW'.out, HF5.out⟩, by simp [intOf]; omega⟩
        · have hj2' : ¬ (j : Int) < (k : Int) := by omega
          obtain rfl : j = k := by omega
          have hG : G = [] := by
            have := HRG.out
            rw [List.drop_of_length_le (by rw [HZL.out]; exact Nat.le_refl _)] at this
            exact this
          subst hG
          rw [show ([] : List UInt8).length = 0 from rfl]
          go_wp2_with (go_at_call 8; with_reducible refine (HW.out _).mono ?_; rintro e w6 ⟨rfl, hf6⟩)
          exact bodyPost_ret (v := .bool true) (by simp [results, Try.f7, go_sem]) rfl ⟨rfl, HFG.out.trans hf6⟩
end Go.Proofs.Ytkdbndgkgpcmfaa
