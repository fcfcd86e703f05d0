/-
  The document's Do of layer 14.
-/
import Derived.Test.YtjediikcfhdgiaaDoorRegA
namespace Go.Proofs.YtjediikcfhdgiaaDoor
set_option maxRecDepth 100000
set_option linter.unusedVariables false
set_option linter.unusedSimpArgs false
open Go.RowKit
/-- What stands in the place of a stream behind an event. -/
def midD (d : DSt) (e : Int) : List DSt := if (refX d.x e).N = 4 then [] else [⟨d.id, d.o, refX d.x e⟩]
def doD (l : List DSt) (a : Nat) (d : DSt) (e : Int) : List DSt := l.take a ++ (midD d e ++ l.drop (a + 1))
/-- What is written of the first k. -/
def preD (l : List DSt) (a : Nat) (d : DSt) (e : Int) (k : Nat) : List DSt := if k ≤ a then l.take k else l.take a ++ (midD d e ++ (l.drop (a + 1)).take (k - (a + 1)))
theorem preD_zero (l : List DSt) (a : Nat) (d : DSt) (e : Int) : preD l a d e 0 = [] := by unfold preD; rw [if_pos (Nat.zero_le _), List.take_zero]
theorem preD_full (l : List DSt) (a : Nat) (d : DSt) (e : Int) (ha : a < l.length) : preD l a d e l.length = doD l a d e := by
  unfold preD doD
  rw [if_neg (by omega), List.take_of_length_le (l := l.drop (a + 1)) (by rw [List.length_drop]; omega)]
theorem preD_at (l : List DSt) (a : Nat) (d : DSt) (e : Int) : preD l a d e (a + 1) = preD l a d e a ++ midD d e := by
  unfold preD
  rw [if_neg (by omega), if_pos (Nat.le_refl _)]
  simp
theorem preD_step (l : List DSt) (a : Nat) (d : DSt) (e : Int) (k : Nat) (x : DSt) (hx : l[k]? = some x) (hne : k ≠ a) : preD l a d e (k + 1) = preD l a d e k ++ [x] := by
  obtain ⟨hk, rfl⟩ := List.getElem?_eq_some_iff.1 hx
  unfold preD
  by_cases h : k + 1 ≤ a
  · rw [if_pos h, if_pos (by omega), List.take_succ_eq_append_getElem hk]
  · rw [if_neg h, if_neg (by omega), List.append_assoc, List.append_assoc]
    congr 2
    rw [show k + 1 - (a + 1) = (k - (a + 1)) + 1 by omega, List.take_succ_eq_append_getElem (by rw [List.length_drop]; omega), List.getElem_drop]
    congr 2
    simp only [show a + 1 + (k - (a + 1)) = k by omega]
theorem preD_le (l : List DSt) (a : Nat) (d : DSt) (e : Int) (k : Nat) : (preD l a d e k).length ≤ l.length + 1 := by
  have hm : (midD d e).length ≤ 1 := by unfold midD; split <;> simp
  unfold preD
  split
  · rw [List.length_take]; omega
  · simp only [List.length_append, List.length_take, List.length_drop]
    by_cases h : a < l.length <;> omega
def RDoP (l : List DSt) (a : Nat) (d : DSt) (e : Int) (w : World) (en : Ending) (w' : World) : Prop :=
  ∃ A' c', en = .returned (.tuple #[.slice A' (doD l a d e).length c', .int .i64 (refW d.x e)]) ∧ LD w' A' c' (doD l a d e) ∧ Fresh w w'
structure RdI (w wr : World) (sb : Nat) (s : RS) (v : Value) (out : List DSt) : Prop where
  fr : Fresh w wr
  st : Blk wr sb 46 #[.int .i64 s.b, .int .i64 s.w, .int .i64 s.t, .int .i64 s.r]
  own : Own wr (sb + 1) 48 6 v out.length (rowD out)
  sz : w.heap.size ≤ sb
set_option maxHeartbeats 6400000 in
theorem rf14_do (A : Option Addr) (c : Nat) (l : List DSt) (a : Nat) (d : DSt) (e : Int) (w : World) (h : LD w A c l) (hl : l.length ≤ 10000) (hd : l[a]? = some d) (hx : d.x ∈ rsL) (h0 : 0 ≤ e) (h8 : e ≤ 8) :
    Calls Tryd.prog 25 #[.slice A l.length c, .int .i64 (a : Int), .int .i64 e] w (RDoP l a d e w) := by
  have H := Lib.hid h
  have hal := (List.getElem?_eq_some_iff.1 hd).1
  have HD := Lib.hid hd
  have HFULL := Lib.hid (preD_full l a d e hal)
  have HAT := Lib.hid (preD_at l a d e)
  have HSTEP := Lib.hid (preD_step l a d e)
  have HLE := Lib.hid (preD_le l a d e)
  have HDO := Lib.hid (fun W => ref_do d.x e W hx h0 h8)
  have HNU := Lib.hid (fun W => ref_num (refX d.x e) W (by
    have := rs_closed d.x hx ⟨e.toNat, by omega⟩
    simpa [Int.toNat_of_nonneg h0] using this))
  have HFIN : Hid (∀ (A' : Option Addr) (c' N : Nat) W, N = (doD l a d e).length → LD W A' c' (doD l a d e) → Fresh w W → RDoP l a d e w (.returned (.tuple #[.slice A' N c', .int .i64 (refW d.x e)])) W) := Lib.hid (fun A' c' N W hN h1 h2 => ⟨A', c', by rw [hN], h1, h2⟩)
  obtain ⟨b, f, rfl, hb, y0, y1, y2, y3, y4, y5⟩ := h.at hd
  have hle := h.le
  have hmx := h.max
  unfold maxLen at hmx
  obtain ⟨m, hm⟩ : ∃ m, l.length = m := ⟨_, rfl⟩
  have HM := Lib.hid hm
  rw [hm] at hle hl hal ⊢
  have HRES : Hid (midD d e = if (refX d.x e).N = 4 then [] else [⟨d.id, d.o, refX d.x e⟩]) := Lib.hid rfl
  clear h hm hd hx h0 h8
  generalize hPP : RDoP l a d e w = PP at *
  clear hPP
  generalize hW : refW d.x e = ww at *
  clear hW
  generalize hX : refX d.x e = X at *
  clear hX
  obtain ⟨di, d0, ⟨xb, xw, xt, xr⟩⟩ := d
  obtain ⟨zb, zw, zt, zr⟩ := X
  simp only [RS.v] at HDO HNU y0 y1 y2 y3 y4 y5 HRES
  have hai : (a : Int) < (m : Int) := by omega
  go_enter Tryd.func25, Tryd.ntmps25
  go_wp2_with fail
  with_reducible refine (HDO.out _).mono ?_
  rintro en w1 ⟨rfl, hf1⟩
  have HF1 := Lib.hid hf1
  clear hf1 y0 y1 y2 y3 y4 y5 hb
  go_upto_region 2 with fail
  obtain ⟨sb, hsb⟩ : ∃ sb, w1.heap.size = sb := ⟨_, rfl⟩
  have hsw : w.heap.size ≤ sb := by rw [← hsb]; exact HF1.out.size
  rw [hsb]
  refine wp_gen (fun W => RdI w W sb ⟨zb, zw, zt, zr⟩ (.slice none 0 0) []) ⟨HF1.out.trans (Fresh.alloc _ _), Blk.mkAt hsb, Own.nil _ _ _ _, hsw⟩ ?_
  clear hsb hsw
  rintro W2 hi2
  have HI2 := Lib.hid hi2
  clear hi2
  go_wp2_with fail
  go_loopw [10, 11] (fun ov iv wr => ∃ (k : Nat) (A' : Option Addr) (c' : Nat), k ≤ m ∧ iv = .int .i64 (k : Int) ∧ ov = .slice A' (preD l a ⟨di, d0, ⟨xb, xw, xt, xr⟩⟩ e k).length c' ∧ RdI w wr sb ⟨zb, zw, zt, zr⟩ (.slice A' (preD l a ⟨di, d0, ⟨xb, xw, xt, xr⟩⟩ e k).length c') (preD l a ⟨di, d0, ⟨xb, xw, xt, xr⟩⟩ e k)) (fun _ iv _ => m - (intOf iv).toNat)
  case atStart => exact ⟨0, none, 0, by omega, rfl, by rw [preD_zero]; rfl, by rw [preD_zero]; exact HI2.out⟩
  case round wr =>
    obtain ⟨k, A', c', hk, rfl, rfl, hi⟩ := hrel
    have HI := Lib.hid hi
    clear hi HI2
    by_cases hlt : k < m
    · have hlt' : (k : Int) < (m : Int) := by omega
      obtain ⟨x, hx⟩ : ∃ x, l[k]? = some x := ⟨_, List.getElem?_eq_getElem (by rw [HM.out]; exact hlt)⟩
      obtain ⟨b2, f2, eA, hb, y0, y1, y2, y3, y4, y5⟩ := H.out.at hx
      injection eA with eA
      injection eA with eb ef
      subst eb ef
      have e0 := (HI.out.fr.cell (p := ⟨b, f + k * 6, none⟩) hb).trans y0
      have e1 := (HI.out.fr.cell (p := ⟨b, f + k * 6 + 1, none⟩) hb).trans y1
      have e2 := (HI.out.fr.cell (p := ⟨b, f + k * 6 + 2, none⟩) hb).trans y2
      have e3 := (HI.out.fr.cell (p := ⟨b, f + k * 6 + 3, none⟩) hb).trans y3
      have e4 := (HI.out.fr.cell (p := ⟨b, f + k * 6 + 4, none⟩) hb).trans y4
      have e5 := (HI.out.fr.cell (p := ⟨b, f + k * 6 + 5, none⟩) hb).trans y5
      clear y0 y1 y2 y3 y4 y5 hb
      go_upto_region 7 with fail
      refine wp_gen (fun W => ∃ xo, xo = wr.heap.size ∧ RdI w W sb ⟨zb, zw, zt, zr⟩ (.slice A' (preD l a ⟨di, d0, ⟨xb, xw, xt, xr⟩⟩ e k).length c') (preD l a ⟨di, d0, ⟨xb, xw, xt, xr⟩⟩ e k) ∧ Blk W xo 48 #[.int .i64 x.id, .int .i64 (x.o : Int), .int .i64 x.x.b, .int .i64 x.x.w, .int .i64 x.x.t, .int .i64 x.x.r]) ⟨_, rfl, ⟨HI.out.fr.trans (Fresh.alloc _ _), HI.out.st.alloc _, HI.out.own.fresh (Fresh.alloc _ _), HI.out.sz⟩, Blk.new _ _ _⟩ ?_
      rintro W4 ⟨xo, hxo, hi4, hb4⟩
      rw [← hxo]
      have HXO : Hid (wr.heap.size ≤ xo ∧ sb < xo) := Lib.hid ⟨Nat.le_of_eq hxo.symm, by rw [hxo]; exact HI.out.st.lt⟩
      have HI4 := Lib.hid hi4
      have HOWN := Lib.hid (fun q hq => (HI.out.own.lt q hq).2)
      clear hxo hi4 e0 e1 e2 e3 e4 e5
      by_cases hka : k = a
      · subst hka
        obtain rfl : ⟨di, d0, ⟨xb, xw, xt, xr⟩⟩ = x := by have := HD.out; rw [hx] at this; exact (Option.some.inj this).symm
        simp only at hb4
        have hkk : ((k : Int) == (k : Int)) = true := by simp
        obtain ⟨s0, s1, s2, s3⟩ := HI4.out.st.c4
        have v2 := hb4.frozen 2
        have v3 := hb4.frozen 3
        have v4 := hb4.frozen 4
        have v5 := hb4.frozen 5
        have u2 := hb4.cell 2
        have u3 := hb4.cell 3
        have u4 := hb4.cell 4
        have u5 := hb4.cell 5
        simp at u2 u3 u4 u5
        have HB4 := Lib.hid hb4
        clear hb4
        go_upto_region 9 with fail
        refine wp_gen (fun W => RdI w W sb ⟨zb, zw, zt, zr⟩ (.slice A' (preD l k ⟨di, d0, ⟨xb, xw, xt, xr⟩⟩ e k).length c') (preD l k ⟨di, d0, ⟨xb, xw, xt, xr⟩⟩ e k) ∧ Blk W xo 48 #[.int .i64 di, .int .i64 (d0 : Int), .int .i64 zb, .int .i64 zw, .int .i64 zt, .int .i64 zr]) ?_ ?_
        · have h0 : Only (fun q => q = xo) W4 W4 := Only.refl _ _
          have h1 := Only.step2 (S := fun q => q = xo) (p := ⟨xo, 2, none⟩) (v := .int .i64 zb) (.inl rfl) h0
          have h2 := Only.step2 (S := fun q => q = xo) (p := ⟨xo, 3, none⟩) (v := .int .i64 zw) (.inl rfl) h1
          have h3 := Only.step2 (S := fun q => q = xo) (p := ⟨xo, 4, none⟩) (v := .int .i64 zt) (.inl rfl) h2
          have h4 := Only.step2 (S := fun q => q = xo) (p := ⟨xo, 5, none⟩) (v := .int .i64 zr) (.inl rfl) h3
          exact ⟨⟨Below.trans HI4.out.fr (Only.below h4 HI4.out.fr.size (fun q e => by have := HXO.out.2; have := HI4.out.sz; omega)), HI4.out.st.only h4 (fun e => by have := HXO.out.2; omega), HI4.out.own.only h4 (fun q hq e => by have := HOWN.out q hq; have := HXO.out.1; omega), HI4.out.sz⟩, by simpa using (((HB4.out.set 2 (.int .i64 zb)).set 3 (.int .i64 zw)).set 4 (.int .i64 zt)).set 5 (.int .i64 zr)⟩
        clear HI4 HB4 u2 u3 u4 u5 v2 v3 v4 v5 s0 s1 s2 s3
        rintro W5 ⟨hi5, hb5⟩
        have HI5 := Lib.hid hi5
        have HB5 := Lib.hid hb5
        obtain ⟨s0, s1, s2, s3⟩ := hi5.st.c4
        clear hi5 hb5
        go_wp2_with fail
        with_reducible refine (HNU.out _).mono ?_
        rintro en w6 ⟨rfl, hf6⟩
        have HI4 : Hid (RdI w w6 sb ⟨zb, zw, zt, zr⟩ (.slice A' (preD l k ⟨di, d0, ⟨xb, xw, xt, xr⟩⟩ e k).length c') (preD l k ⟨di, d0, ⟨xb, xw, xt, xr⟩⟩ e k)) := Lib.hid ⟨HI5.out.fr.trans hf6, HI5.out.st.fresh hf6, HI5.out.own.fresh hf6, HI5.out.sz⟩
        obtain ⟨ZN, hZN⟩ : ∃ ZN, RS.N ⟨zb, zw, zt, zr⟩ = ZN := ⟨_, rfl⟩
        have hres := HRES.out
        rw [hZN] at hres ⊢
        have hat := HAT.out
        have x0' := (HB5.out.fresh hf6).cell 0
        have x1' := (HB5.out.fresh hf6).cell 1
        have x2' := (HB5.out.fresh hf6).cell 2
        have x3' := (HB5.out.fresh hf6).cell 3
        have x4' := (HB5.out.fresh hf6).cell 4
        have x5' := (HB5.out.fresh hf6).cell 5
        simp at x0' x1' x2' x3' x4' x5'
        clear hf6 s0 s1 s2 s3 HB5 hZN
        by_cases hz4 : ZN = 4
        · rw [if_pos hz4] at hres
          rw [hres, List.append_nil] at hat
          have HSAME := Lib.hid hat
          have dz : (ZN == 4) = true := by simpa using hz4
          clear hat hres
          go_wp2_with fail
          go_roundw
          case rel => exact ⟨k + 1, A', c', by omega, by go_num, by rw [HSAME.out], by rw [HSAME.out]; exact HI4.out⟩
          case measure => simp [intOf]; omega
        · rw [if_neg hz4] at hres
          rw [hres] at hat
          have HST := Lib.hid hat
          have dz : (ZN == 4) = false := by simpa using hz4
          clear hat hres hz4
          obtain ⟨N, hN⟩ : ∃ N, (preD l k ⟨di, d0, ⟨xb, xw, xt, xr⟩⟩ e k).length = N := ⟨_, rfl⟩
          have hNl : N ≤ 10001 := by rw [← hN]; have := HLE.out k; rw [HM.out] at this; omega
          have hown := HI4.out.own
          rw [hN] at hown ⊢
          obtain ⟨A5, c5, w5, hap, hown5, ho5⟩ := ds_push ⟨di, d0, ⟨zb, zw, zt, zr⟩⟩ N hown HI4.out.st.lt (by omega)
          simp only at hap
          have hst := HST.out
          have HLEN : Hid ((preD l k ⟨di, d0, ⟨xb, xw, xt, xr⟩⟩ e (k + 1)).length = N + 1) := Lib.hid (by rw [hst, List.length_append, hN]; rfl)
          have HI5 : Hid (RdI w w5 sb ⟨zb, zw, zt, zr⟩ (.slice A5 (preD l k ⟨di, d0, ⟨xb, xw, xt, xr⟩⟩ e (k + 1)).length c5) (preD l k ⟨di, d0, ⟨xb, xw, xt, xr⟩⟩ e (k + 1))) := Lib.hid (by
            rw [HLEN.out]
            refine ⟨Below.trans HI4.out.fr (Only.below ho5 HI4.out.fr.size (fun b e => by have := (hown.lt b e).1; have := HI4.out.sz; omega)), HI4.out.st.only ho5 (fun e => by have := (hown.lt sb e).1; omega), ?_, HI4.out.sz⟩
            rw [HLEN.out, hst]
            exact hown5)
          clear hown hown5 ho5 hN hNl HI4 hst
          go_wp2_with (at_builtin; refine wp_app rfl (.tmp 41) (.tmp 43) _ rfl hap rfl rfl rfl ?_)
          go_roundw
          case rel => exact ⟨k + 1, A5, c5, by omega, by go_num, by rw [HLEN.out], HI5.out⟩
          case measure => simp [intOf]; omega
      · have hkk : ((k : Int) == (a : Int)) = false := beq_eq_false_iff_ne.2 (by omega)
        have hkk2 : ¬ (k : Int) = (a : Int) := by omega
        have hkk3 : ¬ k = a := hka
        have HST := Lib.hid (HSTEP.out k x hx hka)
        obtain ⟨xi, x0, ⟨b1, w1', t1, r1⟩⟩ := x
        simp only at hb4
        have x0' := hb4.cell 0
        have x1' := hb4.cell 1
        have x2' := hb4.cell 2
        have x3' := hb4.cell 3
        have x4' := hb4.cell 4
        have x5' := hb4.cell 5
        simp at x0' x1' x2' x3' x4' x5'
        clear hb4 hka
        obtain ⟨N, hN⟩ : ∃ N, (preD l a ⟨di, d0, ⟨xb, xw, xt, xr⟩⟩ e k).length = N := ⟨_, rfl⟩
        have hNl : N ≤ 10001 := by rw [← hN]; have := HLE.out k; rw [HM.out] at this; omega
        have hown := HI4.out.own
        rw [hN] at hown ⊢
        obtain ⟨A5, c5, w5, hap, hown5, ho5⟩ := ds_push ⟨xi, x0, ⟨b1, w1', t1, r1⟩⟩ N hown HI4.out.st.lt (by omega)
        simp only at hap
        have hst := HST.out
        have HLEN : Hid ((preD l a ⟨di, d0, ⟨xb, xw, xt, xr⟩⟩ e (k + 1)).length = N + 1) := Lib.hid (by rw [hst, List.length_append, hN]; rfl)
        have HI5 : Hid (RdI w w5 sb ⟨zb, zw, zt, zr⟩ (.slice A5 (preD l a ⟨di, d0, ⟨xb, xw, xt, xr⟩⟩ e (k + 1)).length c5) (preD l a ⟨di, d0, ⟨xb, xw, xt, xr⟩⟩ e (k + 1))) := Lib.hid (by
          rw [HLEN.out]
          refine ⟨Below.trans HI4.out.fr (Only.below ho5 HI4.out.fr.size (fun b e => by have := (hown.lt b e).1; have := HI4.out.sz; omega)), HI4.out.st.only ho5 (fun e => by have := (hown.lt sb e).1; omega), ?_, HI4.out.sz⟩
          rw [HLEN.out, hst]
          exact hown5)
        clear hown hown5 ho5 hN hNl HI4 hst
        go_wp2_with (at_builtin; refine wp_app rfl (.tmp 41) (.tmp 43) _ rfl hap rfl rfl rfl ?_)
        go_roundw
        case rel => exact ⟨k + 1, A5, c5, by omega, by go_num, by rw [HLEN.out], HI5.out⟩
        case measure => simp [intOf]; omega
    · obtain rfl : k = m := by omega
      have hnk : ¬ (k : Int) < (k : Int) := by omega
      have hfull := HFULL.out
      rw [HM.out] at hfull
      rw [hfull] at HI ⊢
      have HX := Lib.hid (HFIN.out A' c' _ wr rfl (LD.of HI.out.own rfl) HI.out.fr)
      generalize (doD l a ⟨di, d0, ⟨xb, xw, xt, xr⟩⟩ e).length = nn at *
      go_wp2
      exact HX.out
end Go.Proofs.YtjediikcfhdgiaaDoor

