/-
  The document's Decode of layer 7.
-/
import Derived.Test.YtdoddpigiencjaaDecK2
namespace Go.Proofs.Ytdoddpigiencjaa
set_option maxRecDepth 100000
set_option linter.unusedVariables false
set_option linter.unusedSimpArgs false
open Go.RowKit
def siz7 (v : Value) : Nat := match v with
  | .string s => s.size
  | _ => 0
theorem kindR_range (x : Nat) : (kindR x = 0 ∧ 128 ≤ x) ∨ (kindR x = 1 ∧ 64 ≤ x ∧ x < 128) ∨ (kindR x = 2 ∧ 32 ≤ x ∧ x < 64) ∨ (kindR x = 3 ∧ 16 ≤ x ∧ x < 32) ∨ (kindR x = 4 ∧ x < 16) := by
  unfold kindR
  (repeat' split) <;> omega
theorem str_drop7 (l : List UInt8) (u : Nat) : (strB l).extract u l.length = strB (l.drop u) := by
  apply ByteArray.ext
  apply Array.ext'
  simp only [ByteArray.data_extract, Array.toList_extract, strB_data, List.extract_eq_take_drop]
  rw [List.take_of_length_le (by rw [List.length_drop]; omega)]
theorem d7_flag {w wr : World} {s0 r0 c : Nat} {A : Option Addr} {gs : List FldT} {lm most bound : Int} {ov : Value} {out : List LnD} (h : D7 w wr s0 r0 A c gs lm most bound ov out) :
    Blk (wr.setCell ⟨s0, 4, none⟩ (.bool true)) s0 49 #[.slice A gs.length c, .int .i64 lm, .int .i64 most, .int .i64 bound, .bool true] ∧ Blk (wr.setCell ⟨s0, 4, none⟩ (.bool true)) r0 49 #[.slice none 0 0, .int .i64 0, .int .i64 0, .int .i64 0, .bool false] ∧ Only (fun k => k = s0 ∨ k = r0) wr (wr.setCell ⟨s0, 4, none⟩ (.bool true)) := by
  have hs := h.hs
  have hr := h.hr
  exact ⟨h.st.set 4 _, h.rs.far (by show r0 ≠ s0; omega) _, (Only.of_fresh (Fresh.refl _)).step2 (.inl (.inl rfl))⟩
theorem d7_out {w0 wr : World} {s0 r0 m c : Nat} {A : Option Addr} {lm most bound : Int} {b : Bool} (h : Blk wr r0 49 #[.slice none 0 0, .int .i64 0, .int .i64 0, .int .i64 0, .bool false]) (ho : Only (fun k => k = s0 ∨ k = r0) w0 wr) :
    Blk (((((wr.setCell ⟨r0, 0, none⟩ (.slice A m c)).setCell ⟨r0, 1, none⟩ (.int .i64 lm)).setCell ⟨r0, 2, none⟩ (.int .i64 most)).setCell ⟨r0, 3, none⟩ (.int .i64 bound)).setCell ⟨r0, 4, none⟩ (.bool b)) r0 49 #[.slice A m c, .int .i64 lm, .int .i64 most, .int .i64 bound, .bool b] ∧
    Only (fun k => k = s0 ∨ k = r0) w0 (((((wr.setCell ⟨r0, 0, none⟩ (.slice A m c)).setCell ⟨r0, 1, none⟩ (.int .i64 lm)).setCell ⟨r0, 2, none⟩ (.int .i64 most)).setCell ⟨r0, 3, none⟩ (.int .i64 bound)).setCell ⟨r0, 4, none⟩ (.bool b)) :=
  ⟨((((h.set 0 _).set 1 _).set 2 _).set 3 _).set 4 _, ((((ho.step2 (.inl (.inr rfl))).step2 (.inl (.inr rfl))).step2 (.inl (.inr rfl))).step2 (.inl (.inr rfl))).step2 (.inl (.inr rfl))⟩
theorem d7_nums {F1 F2 : ByteArray} {sz z : Nat} {bound : Int} (hz : fz (F1, F2) = z) (hzf : z ≤ 100000) (h1 : (sz : Int) ≤ bound) (h2 : 0 ≤ bound ∧ bound ≤ 1099511627776) :
    IntKind.i64.wrap ((F1.size : Int) + (F2.size : Int)) = (F1.size : Int) + (F2.size : Int) ∧ IntKind.i64.wrap ((F1.size : Int) + (F2.size : Int) + 32) = (z : Int) ∧ IntKind.i64.wrap ((sz : Int) + (z : Int)) = (sz : Int) + (z : Int) ∧ 32 ≤ z := by
  have hzd : (z : Int) = (F1.size : Int) + (F2.size : Int) + 32 := by rw [← hz]; unfold fz; simp
  refine ⟨IntWalk.i64_in _ (by omega), by rw [← hzd]; exact IntWalk.i64_in _ (by omega), IntWalk.i64_in _ (by omega), by omega⟩
theorem D7.room {w wr : World} {s0 r0 c : Nat} {A : Option Addr} {gs : List FldT} {lm most bound : Int} {ov : Value} {out : List LnD} (h : D7 w wr s0 r0 A c gs lm most bound ov out) : r0 + 1 ≤ wr.heap.size := h.lt.2
theorem d7_gs {gs : List FldT} {lm most : Int} (h1 : lm ≤ most) (h2 : (tz gs : Int) ≤ lm) (h3 : most ≤ 65536) : tz gs ≤ 65536 ∧ gs.length ≤ 1000000 ∧ tz gs ≤ 4503599627370496 := by
  have := tz_lenD gs
  omega
theorem d7_add {gs : List FldT} {f : FldT} (h1 : tz gs ≤ 65536) (h2 : fz f ≤ 100000) : tz gs + fz f ≤ 4503599627370496 := by omega
theorem d7_less {a b n : Nat} (h1 : a ≤ b) (h2 : b < n) : a < n := by omega
theorem d7_ten {a b : Nat} (h1 : a ≤ b) (h2 : b ≤ 10000000) : a ≤ 10000000 := by omega
theorem kf0 {x : Nat} (h : 128 ≤ x) : (128 : Int) ≤ (x : Int) ∧ (32 : Int) ≤ (x : Int) ∧ ¬ (x : Int) < 64 ∧ (64 : Int) ≤ (x : Int) ∧ ¬ (x : Int) < 128 ∧ (16 : Int) ≤ (x : Int) ∧ ¬ (x : Int) < 32 := by omega
theorem kf1 {x : Nat} (h : 64 ≤ x) (h2 : x < 128) : ¬ (128 : Int) ≤ (x : Int) ∧ (32 : Int) ≤ (x : Int) ∧ ¬ (x : Int) < 64 ∧ (64 : Int) ≤ (x : Int) ∧ (x : Int) < 128 ∧ (16 : Int) ≤ (x : Int) ∧ ¬ (x : Int) < 32 := by omega
theorem kf2 {x : Nat} (h : 32 ≤ x) (h2 : x < 64) : (32 : Int) ≤ (x : Int) ∧ (x : Int) < 64 := by omega
theorem kf3 {x : Nat} (h : 16 ≤ x) (h2 : x < 32) : ¬ (128 : Int) ≤ (x : Int) ∧ ¬ (32 : Int) ≤ (x : Int) ∧ ¬ (64 : Int) ≤ (x : Int) ∧ (16 : Int) ≤ (x : Int) ∧ (x : Int) < 32 := by omega
theorem kf4 {x : Nat} (h : x < 16) : ¬ (128 : Int) ≤ (x : Int) ∧ ¬ (32 : Int) ≤ (x : Int) ∧ ¬ (64 : Int) ≤ (x : Int) ∧ ¬ (16 : Int) ≤ (x : Int) := by omega
theorem nz4 {e : Nat} (h : e ≠ 0) : ((e : Int) != 0) = true ∧ ¬ (e : Int) = 0 := ⟨by simp; omega, by omega⟩
theorem pos4 {N : Nat} (h : ¬ N = 0) : (0 : Int) < (N : Int) ∧ 0 < N ∧ decide ((0 : Int) < (N : Int)) = true ∧ decide (0 < N) = true := ⟨by omega, by omega, decide_eq_true (by omega), decide_eq_true (by omega)⟩
theorem k012 {k : Nat} (h : k ≤ 2) : k = 0 ∨ k = 1 ∨ k = 2 := by omega
theorem drop_le7 {l : List UInt8} {b : Nat} (u : Nat) (h : l.length ≤ b) : (l.drop u).length ≤ b := by rw [List.length_drop]; omega
theorem d7_push {ol sz z : Nat} {bound : Int} (h1 : ol * 32 ≤ sz) (h2 : (sz : Int) ≤ bound) (h3 : bound ≤ 1099511627776) : (ol + 1) * 40 ≤ 140737488355328 := by omega
theorem d7_fuel {most bound : Int} {m : Nat} {fs : List FldT} {lim : Int} {size : Nat} {out : List LnD} {l : List UInt8} {FR : Nat × List LnD × List FldT × Int} (h : FR = blockR most bound m fs lim size out l) (hm : l.length ≤ m) : FR = blockR most bound l.length fs lim size out l := by
  rw [h]; exact blockR_fuel _ _ _ _ _ _ _ _ _ hm (Nat.le_refl _)
set_option maxHeartbeats 25600000 in
theorem rf7_decode (A0 : Option Addr) (c0 : Nat) (fs : List FldT) (lim most bound : Int) (l : List UInt8) (w : World) (h : Li7 w A0 c0 fs) (h0 : 0 ≤ lim) (h1 : lim ≤ most) (hmx : most ≤ 65536) (htz : (tz fs : Int) ≤ lim) (hb0 : 0 ≤ bound) (hb1 : bound ≤ 1099511627776) (hl : l.length ≤ 10000000) :
    Calls Try.prog 22 #[.agg #[.slice A0 fs.length c0, .int .i64 lim, .int .i64 most, .int .i64 bound, .bool false], .string (strB l)] w (Ref7P w most bound (blockR most bound l.length fs lim 0 [] l)) := by
  have HMX := Lib.hid hmx
  have HB0 := Lib.hid (And.intro hb0 hb1)
  obtain ⟨FR, hFR⟩ : ∃ FR, blockR most bound l.length fs lim 0 [] l = FR := ⟨_, rfl⟩
  have HFR := Lib.hid hFR
  rw [hFR]
  have HDIE : Hid (∀ (e : Nat) (gs : List FldT) (lm : Int) (A : Option Addr) (c : Nat) (ov : Value) (out : List LnD) (s0 r0 : Nat) (wr W : World), e ≠ 0 → FR = (e, [], gs, lm) → D7 w wr s0 r0 A c gs lm most bound ov out → Only (fun k => k = s0 ∨ k = r0) wr W → Ref7P w most bound FR (.returned (.tuple #[.agg #[.slice A gs.length c, .int .i64 lm, .int .i64 most, .int .i64 bound, .bool true], .slice none 0 0, .int .i64 (e : Int)])) W) := Lib.hid (fun e gs lm A c ov out s0 r0 wr W he hf hd ho => by rw [hf]; exact hd.die ho he)
  have HEND : Hid (∀ (gs : List FldT) (lm : Int) (A : Option Addr) (c : Nat) (O : Option Addr) (oc : Nat) (out : List LnD) (s0 r0 : Nat) (wr W : World), FR = (0, out, gs, lm) → D7 w wr s0 r0 A c gs lm most bound (.slice O out.length oc) out → Only (fun k => k = s0 ∨ k = r0) wr W → Ref7P w most bound FR (.returned (.tuple #[.agg #[.slice A gs.length c, .int .i64 lm, .int .i64 most, .int .i64 bound, .bool false], .slice O out.length oc, .int .i64 0])) W) := Lib.hid (fun gs lm A c O oc out s0 r0 wr W hf hd ho => by rw [hf]; exact hd.end_ ho)
  generalize Ref7P w most bound FR = BP at *
  have HLIM := Lib.hid (show 0 ≤ lim ∧ lim ≤ most ∧ (tz fs : Int) ≤ lim from ⟨h0, h1, htz⟩)
  have HL := Lib.hid hl
  obtain ⟨s0, hs0⟩ : ∃ s0, s0 = w.heap.size := ⟨_, rfl⟩
  obtain ⟨r0, hr0⟩ : ∃ r0, r0 = w.heap.size + 1 := ⟨_, rfl⟩
  have hne : (r0 = s0) = False := by simp; omega
  have hne2 : (s0 = r0) = False := by simp; omega
  have HST : Hid (D7 w ((w.alloc (.cells #[.slice A0 fs.length c0, .int .i64 lim, .int .i64 most, .int .i64 bound, .bool false] 49)).alloc (.cells #[.slice none 0 0, .int .i64 0, .int .i64 0, .int .i64 0, .bool false] 49)) s0 r0 A0 c0 fs lim most bound (.slice none 0 0) []) := Lib.hid (by
    subst hs0 hr0
    exact ⟨(Blk.new _ _ _).alloc _, by simpa using Blk.new (w.alloc (.cells #[.slice A0 fs.length c0, .int .i64 lim, .int .i64 most, .int .i64 bound, .bool false] 49)) 49 #[.slice none 0 0, .int .i64 0, .int .i64 0, .int .i64 0, .bool false], (Fresh.alloc _ _).allocS _, (h.fresh ((Fresh.alloc _ _).allocS _)), Own.nil _ _ _ _, rfl, rfl⟩)
  have HW0 : Hid (s0 = w.heap.size ∧ r0 = w.heap.size + 1) := Lib.hid ⟨hs0, hr0⟩
  clear h hFR h0 h1 htz hl hmx hb0 hb1
  go_enter Try.func22, Try.ntmps22
  obtain ⟨QB, hQB⟩ : ∃ QB, bodyPost Try.prog Try.f22 BP = QB := ⟨_, rfl⟩
  have HQB := Lib.hid hQB
  rw [hQB]
  clear hQB
  go_upto_region 1 with fail
  rw [show w.heap.size + 1 = r0 from hr0.symm, show w.heap.size = s0 from hs0.symm]
  refine wp_gen (fun W => D7 w W s0 r0 A0 c0 fs lim most bound (.slice none 0 0) []) HST.out ?_
  intro w1 hd1
  have HD1 := Lib.hid hd1
  obtain ⟨p0, p1, p2, p3, p4⟩ := hd1.st.c5
  clear hd1 HST hs0 hr0
  go_wp2_with fail
  clear p0 p1 p2 p3 p4
  go_loopw [1, 7, 8] (fun bx ox sx wr => ∃ (r : List UInt8) (O : Option Addr) (out : List LnD) (oc : Nat) (sz : Nat) (gs : List FldT) (lm : Int) (A : Option Addr) (c : Nat), bx = .string (strB r) ∧ ox = .slice O out.length oc ∧ sx = .int .i64 (sz : Int) ∧ r.length ≤ 10000000 ∧ (sz : Int) ≤ bound ∧ out.length * 32 ≤ sz ∧ 0 ≤ lm ∧ lm ≤ most ∧ (tz gs : Int) ≤ lm ∧ FR = blockR most bound r.length gs lm sz out r ∧ D7 w wr s0 r0 A c gs lm most bound (.slice O out.length oc) out) (fun bx _ _ _ => siz7 bx)
  case atStart => exact ⟨l, none, [], 0, 0, fs, lim, A0, c0, rfl, rfl, rfl, HL.out, HB0.out.1, by simp, HLIM.out.1, HLIM.out.2.1, HLIM.out.2.2, HFR.out.symm, HD1.out⟩
  case round =>
    obtain ⟨r, O, out, oc, sz, gs, lm, A, c, rfl, rfl, rfl, hr1, hsb, hos, hl0, hl1, hl2, hfr, hd⟩ := hrel
    have HFQ := Lib.hid hfr
    have HD := Lib.hid hd
    clear hfr hd HD1 HFR HLIM HL
    cases r with
    | nil =>
      as_aux_lemma =>
      have hf2 := HFQ.out
      rw [blockR_nil] at hf2
      have hs00 : (strB []).size = 0 := rfl
      have HF2 := Lib.hid hf2
      clear hf2
      obtain ⟨p0, p1, p2, p3, p4⟩ := HD.out.st.c5
      obtain ⟨o0, o1, o2, o3, o4⟩ := HD.out.rs.c5
      have oz0 := HD.out.rs.frozen 0
      have oz1 := HD.out.rs.frozen 1
      have oz2 := HD.out.rs.frozen 2
      have oz3 := HD.out.rs.frozen 3
      have oz4 := HD.out.rs.frozen 4
      generalize strB [] = S at *
      go_wp2
      refine wx_gen (fun W => Blk W r0 49 #[.slice A gs.length c, .int .i64 lm, .int .i64 most, .int .i64 bound, .bool false] ∧ Only (fun k => k = s0 ∨ k = r0) wr W) (d7_out HD.out.rs (Only.of_fresh (Fresh.refl _))) ?_
      rintro W7 ⟨hb7, ho7⟩
      obtain ⟨g0, g1, g2, g3, g4⟩ := hb7.c5
      rw [← HQB.out]
      exact bodyPost_ret (v := .tuple #[.agg #[.slice A gs.length c, .int .i64 lm, .int .i64 most, .int .i64 bound, .bool false], .slice O out.length oc, .int .i64 0]) (by simp [results, Try.results22, go_sem, g0, g1, g2, g3, g4]) rfl (HEND.out gs lm A c O oc out s0 r0 wr W7 HF2.out HD.out ho7)
    | cons x r =>
      obtain ⟨n, hn⟩ : ∃ n, (x :: r).length = n := ⟨_, rfl⟩
      have HN := Lib.hid hn
      have hsz : (strB (x :: r)).size = n := by rw [strB_size, hn]
      have hS0 : 0 < (strB (x :: r)).size := by rw [strB_size]; simp
      have hg : (strB (x :: r))[0] = x := rfl
      have hnp : (0 : Int) < (n : Int) := by rw [← hn]; simp
      have hbd := bitsR_bd x.toNat
      have HBI := Lib.hid (fun W => rf7_bits x W)
      have HPX := Lib.hid (fun W => ref_dec (bitsR x.toNat) (x :: r) W (by omega) (by omega) (by omega))
      have HCT : Hid (∀ u, (strB (x :: r)).extract u n = strB ((x :: r).drop u)) := Lib.hid (fun u => by rw [← hn]; exact str_drop7 _ _)
      have HDN : Hid ((x :: r).length ≤ 10000000) := Lib.hid hr1
      rw [hn] at hr1
      have hxb := UInt8.toNat_lt x
      have hdc := decL_casesB (bitsR x.toNat) (by omega) (x :: r)
      have hnum : ∀ e : Nat, e ≠ 0 → decL (x :: r) (bitsR x.toNat) = (0, 0, (e : Int)) → FR = (e, [], gs, lm) := fun e he hd => by
        have := HFQ.out
        rw [List.length_cons, blockR_num hd he] at this
        exact this
      have HNUM := Lib.hid hnum
      have HKR := Lib.hid (kindR_range x.toNat)
      clear hnum hn
      rcases hdc with hd | hd | ⟨N, u, hd, hu1, hu2, hN⟩
      · as_aux_lemma =>
        have HFE := Lib.hid (HNUM.out 22 (by decide) hd)
        rw [hd] at HPX
        unfold decV at HPX
        simp only at HPX
        clear hd HNUM HCT
        generalize strB (x :: r) = S at *
        generalize bitsR x.toNat = bt at *
        go_wp2_with fail
        with_reducible refine (HBI.out _).mono ?_
        rintro e5 w5 ⟨rfl, rfl⟩
        go_wp2_with fail
        with_reducible refine (HPX.out _).mono ?_
        rintro e5 w5 ⟨rfl, hf5⟩
        have HD5 := Lib.hid (HD.out.fresh hf5)
        have HF5 := Lib.hid hf5
        clear hf5
        obtain ⟨pp0, pp1, pp2, pp3, pp4⟩ := (HD5.out).st.c5
        have pz4 := (HD5.out).st.frozen 4
        go_upto_region 10 with fail
        (try clear hwa hwb hwc hwa' hwb' hwc' hbig)
        (try clear hwa hwb hwc hwa' hwb' hwc')
        (try clear ek0); (try clear ek1); (try clear ek2); (try clear ek3); (try clear ek4); (try clear ek5); (try clear ek6); (try clear hu3 hu4 hcu); (try clear hnp); (try clear hbd); (try clear hsb hos hl0 hl1 hl2 hr1); (try clear hxb); (try clear hln2); (try clear hu1 hu2 hN); (try clear hg hS0 hsz); (try clear hNp hNq hNr hNs); (try clear hNp)
        refine wp_gen (fun W => Blk W s0 49 #[.slice A gs.length c, .int .i64 lm, .int .i64 most, .int .i64 bound, .bool true] ∧ Blk W r0 49 #[.slice none 0 0, .int .i64 0, .int .i64 0, .int .i64 0, .bool false] ∧ Only (fun k => k = s0 ∨ k = r0) w5 W) (d7_flag (HD5.out)) ?_
        rintro WF ⟨hbf1, hbf2, hof⟩
        clear pp0 pp1 pp2 pp3 pp4 pz4
        obtain ⟨pp0, pp1, pp2, pp3, pp4⟩ := hbf1.c5
        obtain ⟨oo0, oo1, oo2, oo3, oo4⟩ := hbf2.c5
        have oz0 := hbf2.frozen 0
        have oz1 := hbf2.frozen 1
        have oz2 := hbf2.frozen 2
        have oz3 := hbf2.frozen 3
        have oz4 := hbf2.frozen 4
        have HBF2 := Lib.hid hbf2
        have HOF := Lib.hid hof
        clear hbf1 hbf2 hof
        go_wp2
        refine wx_gen (fun W => Blk W r0 49 #[.slice A gs.length c, .int .i64 lm, .int .i64 most, .int .i64 bound, .bool true] ∧ Only (fun k => k = s0 ∨ k = r0) w5 W) (d7_out HBF2.out HOF.out) ?_
        rintro W7 ⟨hb7, ho7⟩
        obtain ⟨g0, g1, g2, g3, g4⟩ := hb7.c5
        rw [← HQB.out]
        exact bodyPost_ret (v := .tuple #[.agg #[.slice A gs.length c, .int .i64 lm, .int .i64 most, .int .i64 bound, .bool true], .slice none 0 0, .int .i64 22]) (by simp [results, Try.results22, go_sem, g0, g1, g2, g3, g4]) rfl (HDIE.out 22 gs lm A c _ out s0 r0 w5 W7 (by decide) HFE.out HD5.out ho7)
      · as_aux_lemma =>
        have HFE := Lib.hid (HNUM.out 16 (by decide) hd)
        rw [hd] at HPX
        unfold decV at HPX
        simp only at HPX
        clear hd HNUM HCT
        generalize strB (x :: r) = S at *
        generalize bitsR x.toNat = bt at *
        go_wp2_with fail
        with_reducible refine (HBI.out _).mono ?_
        rintro e5 w5 ⟨rfl, rfl⟩
        go_wp2_with fail
        with_reducible refine (HPX.out _).mono ?_
        rintro e5 w5 ⟨rfl, hf5⟩
        have HD5 := Lib.hid (HD.out.fresh hf5)
        have HF5 := Lib.hid hf5
        clear hf5
        obtain ⟨pp0, pp1, pp2, pp3, pp4⟩ := (HD5.out).st.c5
        have pz4 := (HD5.out).st.frozen 4
        go_upto_region 10 with fail
        (try clear hwa hwb hwc hwa' hwb' hwc' hbig)
        (try clear hwa hwb hwc hwa' hwb' hwc')
        (try clear ek0); (try clear ek1); (try clear ek2); (try clear ek3); (try clear ek4); (try clear ek5); (try clear ek6); (try clear hu3 hu4 hcu); (try clear hnp); (try clear hbd); (try clear hsb hos hl0 hl1 hl2 hr1); (try clear hxb); (try clear hln2); (try clear hu1 hu2 hN); (try clear hg hS0 hsz); (try clear hNp hNq hNr hNs); (try clear hNp)
        refine wp_gen (fun W => Blk W s0 49 #[.slice A gs.length c, .int .i64 lm, .int .i64 most, .int .i64 bound, .bool true] ∧ Blk W r0 49 #[.slice none 0 0, .int .i64 0, .int .i64 0, .int .i64 0, .bool false] ∧ Only (fun k => k = s0 ∨ k = r0) w5 W) (d7_flag (HD5.out)) ?_
        rintro WF ⟨hbf1, hbf2, hof⟩
        clear pp0 pp1 pp2 pp3 pp4 pz4
        obtain ⟨pp0, pp1, pp2, pp3, pp4⟩ := hbf1.c5
        obtain ⟨oo0, oo1, oo2, oo3, oo4⟩ := hbf2.c5
        have oz0 := hbf2.frozen 0
        have oz1 := hbf2.frozen 1
        have oz2 := hbf2.frozen 2
        have oz3 := hbf2.frozen 3
        have oz4 := hbf2.frozen 4
        have HBF2 := Lib.hid hbf2
        have HOF := Lib.hid hof
        clear hbf1 hbf2 hof
        go_wp2
        refine wx_gen (fun W => Blk W r0 49 #[.slice A gs.length c, .int .i64 lm, .int .i64 most, .int .i64 bound, .bool true] ∧ Only (fun k => k = s0 ∨ k = r0) w5 W) (d7_out HBF2.out HOF.out) ?_
        rintro W7 ⟨hb7, ho7⟩
        obtain ⟨g0, g1, g2, g3, g4⟩ := hb7.c5
        rw [← HQB.out]
        exact bodyPost_ret (v := .tuple #[.agg #[.slice A gs.length c, .int .i64 lm, .int .i64 most, .int .i64 bound, .bool true], .slice none 0 0, .int .i64 16]) (by simp [results, Try.results22, go_sem, g0, g1, g2, g3, g4]) rfl (HDIE.out 16 gs lm A c _ out s0 r0 w5 W7 (by decide) HFE.out HD5.out ho7)
      · rw [HN.out] at hu2
        rw [hd] at HPX
        unfold decV at HPX
        simp only at HPX
        obtain ⟨l2, hl2e⟩ : ∃ l2, (x :: r).drop u = l2 := ⟨_, rfl⟩
        have hlen2 : l2.length = n - u := by rw [← hl2e, List.length_drop, HN.out]
        have hcu := HCT.out u
        rw [hl2e] at hcu
        have hu3 : (u : Int) ≤ (n : Int) := by omega
        have hu4 : (0 : Int) ≤ (u : Int) := by omega
        have hln2 : l2.length ≤ 10000000 := by omega
        have HLT : Hid (l2.length < n) := Lib.hid (by omega)
        have hrl : r.length = l2.length + (u - 1) := by
          have h1 := congrArg List.length hl2e
          have h2 := HN.out
          simp at h1 h2
          omega
        have HRL : Hid (l2.length ≤ r.length) := Lib.hid (by omega)
        have HS2 : Hid ((strB l2).size = l2.length) := Lib.hid (strB_size l2)
        clear HCT HNUM hlen2 hrl
        obtain ⟨kd, hkd⟩ : ∃ kd, kindR x.toNat = kd := ⟨_, rfl⟩
        have hkr := HKR.out
        rw [hkd] at hkr
        have hf2q := HFQ.out
        rcases hkr with ⟨rfl, hx1⟩ | ⟨rfl, hx1, hx2⟩ | ⟨rfl, hx1, hx2⟩ | ⟨rfl, hx1, hx2⟩ | ⟨rfl, hx1⟩
        · rw [List.length_cons, blockR_line hd 0 hkd (by decide) l2 hl2e] at hf2q
          have hnvv : decide ((0 : Nat) = 3) = false := rfl
          rw [hnvv] at hf2q
          have HFL := Lib.hid hf2q
          have HENT := Lib.hid (fun W (hli : Li7 W A c gs) => rf7_entry A c gs lm most bound false N W hli.rows (d7_gs hl1 hl2 HMX.out).2.1 hN)
          unfold En7P at HENT
          clear hf2q hd hkd hl2e hnvv
          generalize strB (x :: r) = S at *
          generalize bitsR x.toNat = bt at *
          generalize hxn : x.toNat = xn at *
          obtain ⟨ek0, ek1, ek2, ek3, ek4, ek5, ek6⟩ := kf0 hx1
          clear hx1
          by_cases hN0 : N = 0
          · subst hN0
            as_aux_lemma =>
            have hNp : ¬ (0 : Int) < 0 := by decide
            have hen : entR gs 0 = none := entR_none gs (.inl rfl)
            rw [show ((0 : Nat) : Int) = 0 from rfl] at HPX HENT
            go_wp2_with fail
            with_reducible refine (HBI.out _).mono ?_
            rintro e5 w5 ⟨rfl, rfl⟩
            go_wp2_with fail
            with_reducible refine (HPX.out _).mono ?_
            rintro e5 w5 ⟨rfl, hf5⟩
            have HD5 := Lib.hid (HD.out.fresh hf5)
            have HF5 := Lib.hid hf5
            clear hf5
            go_upto_region 19 with fail
            refine wp_gen (fun W => Blk W w5.heap.size 77 #[.string ⟨#[]⟩, .string ⟨#[]⟩] ∧ Fresh w5 W) ⟨Blk.new _ _ _, Fresh.alloc _ _⟩ ?_
            rintro W6 ⟨hb6, hf6⟩
            have HG0 : Hid (wr.heap.size ≤ w5.heap.size) := Lib.hid HF5.out.size
            generalize w5.heap.size = f0 at *
            have HB6 := Lib.hid hb6
            have HF6 := Lib.hid (HF5.out.trans hf6)
            have HD6 := Lib.hid (HD5.out.fresh hf6)
            clear hb6 hf6 HD5 HF5
            have HFE : Hid (FR = (23, [], gs, lm)) := Lib.hid (by
              have h2 := HFL.out
              have h3 : lineR gs 0 0 l2 = (23, (strB [], strB []), 0) := by
                unfold lineR
                first
                | (rw [if_pos rfl, hen]; done)
                | (rw [if_neg (by decide)]; exact fieldR_entry_no hN0 hen)
              have hG : fsL gs lm 0 0 l2 = gs := by unfold fsL; rw [if_neg (by rw [h3]; simp)]
              rw [hG, h3, if_pos (by simp)] at h2
              exact h2)
            obtain ⟨p0, p1, p2, p3, p4⟩ := HD6.out.st.c5
            rw [hen] at HENT
            simp only [nofV] at HENT
            clear hen HFL
            go_wp2_with fail
            with_reducible refine (HENT.out _ HD6.out.li).mono ?_
            rintro e7 w7 ⟨rfl, hf7⟩
            have HF7 := Lib.hid (HF6.out.trans hf7)
            have HB7 := Lib.hid (HB6.out.fresh hf7)
            clear hf7 p0 p1 p2 p3 p4
            obtain ⟨q0, q1⟩ := HB7.out.c2
            have qz0 := HB7.out.frozen 0
            have qz1 := HB7.out.frozen 1
            go_upto_region 22 with fail
            refine wp_gen (fun W => Fresh wr W) (by repeat (first | with_reducible exact HF7.out | (with_reducible refine Fresh.step2 ?_ ?_; focus (exact HG0.out)))) ?_
            intro w8 hf8
            have HD8 := Lib.hid (HD.out.fresh hf8)
            clear hf8 q0 q1 qz0 qz1
            obtain ⟨pp0, pp1, pp2, pp3, pp4⟩ := (HD8.out).st.c5
            have pz4 := (HD8.out).st.frozen 4
            go_upto_region 24 with fail
            (try clear hwa hwb hwc hwa' hwb' hwc' hbig)
            (try clear hwa hwb hwc hwa' hwb' hwc')
            (try clear ek0); (try clear ek1); (try clear ek2); (try clear ek3); (try clear ek4); (try clear ek5); (try clear ek6); (try clear hu3 hu4 hcu); (try clear hnp); (try clear hbd); (try clear hsb hos hl0 hl1 hl2 hr1); (try clear hxb); (try clear hln2); (try clear hu1 hu2 hN); (try clear hg hS0 hsz); (try clear hNp hNq hNr hNs); (try clear hNp)
            refine wp_gen (fun W => Blk W s0 49 #[.slice A gs.length c, .int .i64 lm, .int .i64 most, .int .i64 bound, .bool true] ∧ Blk W r0 49 #[.slice none 0 0, .int .i64 0, .int .i64 0, .int .i64 0, .bool false] ∧ Only (fun k => k = s0 ∨ k = r0) w8 W) (d7_flag (HD8.out)) ?_
            rintro WF ⟨hbf1, hbf2, hof⟩
            clear pp0 pp1 pp2 pp3 pp4 pz4
            obtain ⟨pp0, pp1, pp2, pp3, pp4⟩ := hbf1.c5
            obtain ⟨oo0, oo1, oo2, oo3, oo4⟩ := hbf2.c5
            have oz0 := hbf2.frozen 0
            have oz1 := hbf2.frozen 1
            have oz2 := hbf2.frozen 2
            have oz3 := hbf2.frozen 3
            have oz4 := hbf2.frozen 4
            have HBF2 := Lib.hid hbf2
            have HOF := Lib.hid hof
            clear hbf1 hbf2 hof
            go_wp2
            refine wx_gen (fun W => Blk W r0 49 #[.slice A gs.length c, .int .i64 lm, .int .i64 most, .int .i64 bound, .bool true] ∧ Only (fun k => k = s0 ∨ k = r0) w8 W) (d7_out HBF2.out HOF.out) ?_
            rintro W7 ⟨hb7, ho7⟩
            obtain ⟨g0, g1, g2, g3, g4⟩ := hb7.c5
            rw [← HQB.out]
            exact bodyPost_ret (v := .tuple #[.agg #[.slice A gs.length c, .int .i64 lm, .int .i64 most, .int .i64 bound, .bool true], .slice none 0 0, .int .i64 23]) (by simp [results, Try.results22, go_sem, g0, g1, g2, g3, g4]) rfl (HDIE.out 23 gs lm A c _ out s0 r0 w8 W7 (by decide) HFE.out HD8.out ho7)
          · obtain ⟨hNp, hNq, hNr, hNs⟩ := pos4 hN0
            cases hen : entR gs N with
            | none =>
              as_aux_lemma =>
              go_wp2_with fail
              with_reducible refine (HBI.out _).mono ?_
              rintro e5 w5 ⟨rfl, rfl⟩
              go_wp2_with fail
              with_reducible refine (HPX.out _).mono ?_
              rintro e5 w5 ⟨rfl, hf5⟩
              have HD5 := Lib.hid (HD.out.fresh hf5)
              have HF5 := Lib.hid hf5
              clear hf5
              go_upto_region 19 with fail
              refine wp_gen (fun W => Blk W w5.heap.size 77 #[.string ⟨#[]⟩, .string ⟨#[]⟩] ∧ Fresh w5 W) ⟨Blk.new _ _ _, Fresh.alloc _ _⟩ ?_
              rintro W6 ⟨hb6, hf6⟩
              have HG0 : Hid (wr.heap.size ≤ w5.heap.size) := Lib.hid HF5.out.size
              generalize w5.heap.size = f0 at *
              have HB6 := Lib.hid hb6
              have HF6 := Lib.hid (HF5.out.trans hf6)
              have HD6 := Lib.hid (HD5.out.fresh hf6)
              clear hb6 hf6 HD5 HF5
              have HFE : Hid (FR = (23, [], gs, lm)) := Lib.hid (by
                have h2 := HFL.out
                have h3 : lineR gs 0 N l2 = (23, (strB [], strB []), 0) := by
                  unfold lineR
                  first
                  | (rw [if_pos rfl, hen]; done)
                  | (rw [if_neg (by decide)]; exact fieldR_entry_no hN0 hen)
                have hG : fsL gs lm 0 N l2 = gs := by unfold fsL; rw [if_neg (by rw [h3]; simp)]
                rw [hG, h3, if_pos (by simp)] at h2
                exact h2)
              obtain ⟨p0, p1, p2, p3, p4⟩ := HD6.out.st.c5
              rw [hen] at HENT
              simp only [nofV] at HENT
              clear hen HFL
              go_wp2_with fail
              with_reducible refine (HENT.out _ HD6.out.li).mono ?_
              rintro e7 w7 ⟨rfl, hf7⟩
              have HF7 := Lib.hid (HF6.out.trans hf7)
              have HB7 := Lib.hid (HB6.out.fresh hf7)
              clear hf7 p0 p1 p2 p3 p4
              obtain ⟨q0, q1⟩ := HB7.out.c2
              have qz0 := HB7.out.frozen 0
              have qz1 := HB7.out.frozen 1
              go_upto_region 22 with fail
              refine wp_gen (fun W => Fresh wr W) (by repeat (first | with_reducible exact HF7.out | (with_reducible refine Fresh.step2 ?_ ?_; focus (exact HG0.out)))) ?_
              intro w8 hf8
              have HD8 := Lib.hid (HD.out.fresh hf8)
              clear hf8 q0 q1 qz0 qz1
              obtain ⟨pp0, pp1, pp2, pp3, pp4⟩ := (HD8.out).st.c5
              have pz4 := (HD8.out).st.frozen 4
              go_upto_region 24 with fail
              (try clear hwa hwb hwc hwa' hwb' hwc' hbig)
              (try clear hwa hwb hwc hwa' hwb' hwc')
              (try clear ek0); (try clear ek1); (try clear ek2); (try clear ek3); (try clear ek4); (try clear ek5); (try clear ek6); (try clear hu3 hu4 hcu); (try clear hnp); (try clear hbd); (try clear hsb hos hl0 hl1 hl2 hr1); (try clear hxb); (try clear hln2); (try clear hu1 hu2 hN); (try clear hg hS0 hsz); (try clear hNp hNq hNr hNs); (try clear hNp)
              refine wp_gen (fun W => Blk W s0 49 #[.slice A gs.length c, .int .i64 lm, .int .i64 most, .int .i64 bound, .bool true] ∧ Blk W r0 49 #[.slice none 0 0, .int .i64 0, .int .i64 0, .int .i64 0, .bool false] ∧ Only (fun k => k = s0 ∨ k = r0) w8 W) (d7_flag (HD8.out)) ?_
              rintro WF ⟨hbf1, hbf2, hof⟩
              clear pp0 pp1 pp2 pp3 pp4 pz4
              obtain ⟨pp0, pp1, pp2, pp3, pp4⟩ := hbf1.c5
              obtain ⟨oo0, oo1, oo2, oo3, oo4⟩ := hbf2.c5
              have oz0 := hbf2.frozen 0
              have oz1 := hbf2.frozen 1
              have oz2 := hbf2.frozen 2
              have oz3 := hbf2.frozen 3
              have oz4 := hbf2.frozen 4
              have HBF2 := Lib.hid hbf2
              have HOF := Lib.hid hof
              clear hbf1 hbf2 hof
              go_wp2
              refine wx_gen (fun W => Blk W r0 49 #[.slice A gs.length c, .int .i64 lm, .int .i64 most, .int .i64 bound, .bool true] ∧ Only (fun k => k = s0 ∨ k = r0) w8 W) (d7_out HBF2.out HOF.out) ?_
              rintro W7 ⟨hb7, ho7⟩
              obtain ⟨g0, g1, g2, g3, g4⟩ := hb7.c5
              rw [← HQB.out]
              exact bodyPost_ret (v := .tuple #[.agg #[.slice A gs.length c, .int .i64 lm, .int .i64 most, .int .i64 bound, .bool true], .slice none 0 0, .int .i64 23]) (by simp [results, Try.results22, go_sem, g0, g1, g2, g3, g4]) rfl (HDIE.out 23 gs lm A c _ out s0 r0 w8 W7 (by decide) HFE.out HD8.out ho7)
            | some fe =>
              as_aux_lemma =>
              go_wp2_with fail
              with_reducible refine (HBI.out _).mono ?_
              rintro e5 w5 ⟨rfl, rfl⟩
              go_wp2_with fail
              with_reducible refine (HPX.out _).mono ?_
              rintro e5 w5 ⟨rfl, hf5⟩
              have HD5 := Lib.hid (HD.out.fresh hf5)
              have HF5 := Lib.hid hf5
              clear hf5
              go_upto_region 19 with fail
              refine wp_gen (fun W => Blk W w5.heap.size 77 #[.string ⟨#[]⟩, .string ⟨#[]⟩] ∧ Fresh w5 W) ⟨Blk.new _ _ _, Fresh.alloc _ _⟩ ?_
              rintro W6 ⟨hb6, hf6⟩
              have HG0 : Hid (wr.heap.size ≤ w5.heap.size) := Lib.hid HF5.out.size
              generalize w5.heap.size = f0 at *
              have HB6 := Lib.hid hb6
              have HF6 := Lib.hid (HF5.out.trans hf6)
              have HD6 := Lib.hid (HD5.out.fresh hf6)
              clear hb6 hf6 HD5 HF5
              obtain ⟨E1, E2⟩ := fe
              have HEN := Lib.hid hen
              obtain ⟨p0, p1, p2, p3, p4⟩ := HD6.out.st.c5
              rw [hen] at HENT
              simp only at HENT
              clear hen
              go_wp2_with fail
              with_reducible refine (HENT.out _ HD6.out.li).mono ?_
              rintro e7 w7 ⟨rfl, hf7⟩
              have HF7 := Lib.hid (HF6.out.trans hf7)
              have HB7 := Lib.hid (HB6.out.fresh hf7)
              clear hf7 p0 p1 p2 p3 p4
              obtain ⟨q0, q1⟩ := HB7.out.c2
              have qz0 := HB7.out.frozen 0
              have qz1 := HB7.out.frozen 1
              go_upto_region 25 with fail
              refine wp_gen (fun W => Blk W f0 77 #[.string E1, .string E2] ∧ Fresh wr W) ⟨by simpa using (HB7.out.set 0 (.string E1)).set 1 (.string E2), by repeat (first | with_reducible exact HF7.out | (with_reducible refine Fresh.step2 ?_ ?_; focus (exact HG0.out)))⟩ ?_
              rintro W8 ⟨hb8, hf8⟩
              have HB8 := Lib.hid hb8
              have HF8 := Lib.hid hf8
              clear hb8 hf8 q0 q1 qz0 qz1
              have HINL := Lib.hid (inR_line gs 0 N l2 (E1, E2) (fun _ => HEN.out))
              obtain ⟨IR, hIR⟩ : ∃ IR, inR 0 N 2 0 (E1, E2) l2 = IR := ⟨_, rfl⟩
              rw [hIR] at HINL
              have HIR0 := Lib.hid hIR
              have HLE : Hid (∀ e : Nat, e ≠ 0 → IR.1 = e → FR = (e, [], gs, lm)) := Lib.hid (fun e he hI => by
                have h1 := HINL.out.1
                have h2 := HFL.out
                rw [hI] at h1
                have hG : fsL gs lm 0 N l2 = gs := by unfold fsL; rw [if_neg (fun hh => he (by rw [h1]; exact hh.2))]
                rw [← h1, hG, if_pos he] at h2
                exact h2)
              clear hIR
              go_wp2_with fail
              go_loopw [1, 15] (fun bx kx W => ∃ (k : Nat) (f : FldT) (l' : List UInt8), k ≤ 2 ∧ kx = .int .i64 (k : Int) ∧ bx = .string (strB l') ∧ l'.length ≤ l2.length ∧ inR 0 N (2 - k) k f l' = IR ∧ Blk W f0 77 #[.string f.1, .string f.2] ∧ Fresh wr W) (fun _ kx _ => 2 - (intOf kx).toNat)
              case atStart => exact ⟨0, (E1, E2), l2, by decide, rfl, rfl, Nat.le_refl _, HIR0.out, HB8.out, HF8.out⟩
              case round =>
                obtain ⟨k, ⟨F1, F2⟩, l', hk, rfl, rfl, hl', hir, hbf, hfw⟩ := hrel
                have HIR := Lib.hid hir
                have HBF := Lib.hid hbf
                have HFW := Lib.hid hfw
                have HDW := Lib.hid (HD.out.fresh hfw)
                simp only at HBF
                clear hir hbf hfw HIR0 HB8 HF8
                rcases k012 hk with rfl | rfl | rfl
                · as_aux_lemma =>
                  rw [show ((0 : Nat) : Int) = 0 from rfl]
                  have hI : inR 0 N (2 - 0 - 1) (0 + 1) (F1, F2) l' = IR := by
                    rw [← HIR.out]
                    exact (inR_skip (.inl rfl)).symm
                  have HI := Lib.hid hI
                  clear hI
                  go_wp2
                  exact ⟨⟨0 + 1, (F1, F2), l', by decide, by go_num, rfl, hl', HI.out, HBF.out, HFW.out⟩, by simp [intOf]⟩
                · as_aux_lemma =>
                  rw [show ((1 : Nat) : Int) = 1 from rfl]
                  have hI : inR 0 N (2 - 1 - 1) (1 + 1) (F1, F2) l' = IR := by
                    rw [← HIR.out]
                    exact (inR_skip (.inl rfl)).symm
                  have HI := Lib.hid hI
                  clear hI
                  go_wp2
                  exact ⟨⟨1 + 1, (F1, F2), l', by decide, by go_num, rfl, hl', HI.out, HBF.out, HFW.out⟩, by simp [intOf]⟩
                · have h2 := HIR.out
                  have h3 : IR = (0, (F1, F2), l') := by rw [← h2]; rfl
                  have h4 := HINL.out
                  rw [h3] at h4
                  obtain ⟨h5, h6⟩ := h4
                  obtain ⟨h7, h8⟩ := h6 h5.symm
                  simp only at h5 h7 h8
                  have hz1 := lineR_fz gs 0 N l2 (d7_gs hl1 hl2 HMX.out).1
                  rw [← h7] at hz1
                  have HZF := Lib.hid hz1
                  have h9 := HFL.out
                  rw [if_neg (by rw [← h5]; simp), ← h7, ← h8] at h9
                  have hG : fsL gs lm 0 N l2 = gs := by unfold fsL; rw [if_neg (fun hh => absurd hh.1 (by decide))]
                  have HTG0 := Lib.hid (tz_fsL gs lm 0 N l2 hl0 hl2)
                  obtain ⟨G, hGG⟩ : ∃ G, fsL gs lm 0 N l2 = G := ⟨_, rfl⟩
                  rw [hGG] at hG h9 HTG0
                  have HGE := Lib.hid hG
                  have HTG := HTG0
                  obtain ⟨l3, hl3⟩ : ∃ l3, l' = l3 := ⟨_, rfl⟩
                  subst hl3
                  have HFN : Hid (FR = if bound < (sz : Int) + (fz (F1, F2) : Int) then (22, [], G, lm) else blockR most bound r.length G lm (sz + fz (F1, F2)) (out ++ [((F1, F2), false)]) l') := Lib.hid h9
                  have HL3 := Lib.hid hl'
                  rw [show ((2 : Nat) : Int) = 2 from rfl]
                  clear h2 h3 h5 h6 h7 h8 h9 hz1 hG hGG HTG0 HIR HINL HFL HLE
                  have HGA : Hid (G = gs) := Lib.hid HGE.out
                  obtain rfl := HGA.out
                  obtain ⟨A10, c10, w10, hap, hO10, hF10⟩ := lnr_push (w := wr) (base := r0 + 1) HDW.out.own HDW.out.room ((F1, F2), false) (d7_push (z := 0) hos hsb HB0.out.2) wr.heap.size rfl
                  rw [show nvI false = 0 from rfl] at hap
                  simp only at hap
                  have HB10 : Hid (Blk w10 f0 77 #[.string F1, .string F2]) := Lib.hid (HBF.out.only hF10 (fun e => by
                    obtain ⟨cs', hb'⟩ := ownBlkD HDW.out.own e
                    exact HBF.out.ne hb' (by decide) rfl))
                  have HD10 : Hid (D7 w w10 s0 r0 A c G lm most bound (.slice A10 (out.length + 1) c10) (out ++ [((F1, F2), false)])) := Lib.hid (HDW.out.push hO10 hF10)
                  obtain ⟨q0, q1⟩ := HBF.out.c2
                  clear hO10 hF10
                  obtain ⟨q2, q3⟩ := HB10.out.c2
                  obtain ⟨p0, p1, p2, p3, p4⟩ := HD10.out.st.c5
                  obtain ⟨z, hz⟩ : ∃ z, fz (F1, F2) = z := ⟨_, rfl⟩
                  have hzf := HZF.out
                  rw [hz] at hzf HFN
                  obtain ⟨hwa, hwb, hwc, hz32⟩ := d7_nums hz hzf hsb HB0.out
                  have hwa' := (wrap_eq64 _).symm.trans hwa
                  have hwb' := (wrap_eq64 _).symm.trans hwb
                  have hwc' := (wrap_eq64 _).symm.trans hwc
                  have HZ32 : Hid (32 ≤ z) := Lib.hid hz32
                  clear hz hzf hz32
                  by_cases hbig : bound < (sz : Int) + (z : Int)
                  · as_aux_lemma =>
                    have HFE : Hid (FR = (22, [], G, lm)) := Lib.hid (by have := HFN.out; rw [if_pos hbig] at this; exact this)
                    go_upto_region 43 with (at_builtin; with_reducible refine wp_app rfl (.tmp 134) (.tmp 141) _ rfl hap rfl rfl rfl ?_)
                    clear p0 p1 p2 p3 p4 q0 q1 q2 q3 hap
                    obtain ⟨pp0, pp1, pp2, pp3, pp4⟩ := (HD10.out).st.c5
                    have pz4 := (HD10.out).st.frozen 4
                    go_upto_region 44 with fail
                    (try clear hwa hwb hwc hwa' hwb' hwc' hbig)
                    (try clear hwa hwb hwc hwa' hwb' hwc')
                    (try clear ek0); (try clear ek1); (try clear ek2); (try clear ek3); (try clear ek4); (try clear ek5); (try clear ek6); (try clear hu3 hu4 hcu); (try clear hnp); (try clear hbd); (try clear hsb hos hl0 hl1 hl2 hr1); (try clear hxb); (try clear hln2); (try clear hu1 hu2 hN); (try clear hg hS0 hsz); (try clear hNp hNq hNr hNs); (try clear hNp)
                    refine wp_gen (fun W => Blk W s0 49 #[.slice A G.length c, .int .i64 lm, .int .i64 most, .int .i64 bound, .bool true] ∧ Blk W r0 49 #[.slice none 0 0, .int .i64 0, .int .i64 0, .int .i64 0, .bool false] ∧ Only (fun k => k = s0 ∨ k = r0) w10 W) (d7_flag (HD10.out)) ?_
                    rintro WF ⟨hbf1, hbf2, hof⟩
                    clear pp0 pp1 pp2 pp3 pp4 pz4
                    obtain ⟨pp0, pp1, pp2, pp3, pp4⟩ := hbf1.c5
                    obtain ⟨oo0, oo1, oo2, oo3, oo4⟩ := hbf2.c5
                    have oz0 := hbf2.frozen 0
                    have oz1 := hbf2.frozen 1
                    have oz2 := hbf2.frozen 2
                    have oz3 := hbf2.frozen 3
                    have oz4 := hbf2.frozen 4
                    have HBF2 := Lib.hid hbf2
                    have HOF := Lib.hid hof
                    clear hbf1 hbf2 hof
                    go_wp2
                    refine wx_gen (fun W => Blk W r0 49 #[.slice A G.length c, .int .i64 lm, .int .i64 most, .int .i64 bound, .bool true] ∧ Only (fun k => k = s0 ∨ k = r0) w10 W) (d7_out HBF2.out HOF.out) ?_
                    rintro W7 ⟨hb7, ho7⟩
                    obtain ⟨g0, g1, g2, g3, g4⟩ := hb7.c5
                    rw [← HQB.out]
                    exact bodyPost_ret (v := .tuple #[.agg #[.slice A G.length c, .int .i64 lm, .int .i64 most, .int .i64 bound, .bool true], .slice none 0 0, .int .i64 22]) (by simp [results, Try.results22, go_sem, g0, g1, g2, g3, g4]) rfl (HDIE.out 22 G lm A c _ _ s0 r0 w10 W7 (by decide) HFE.out HD10.out ho7)
                  · as_aux_lemma =>
                    have HGO : Hid (FR = blockR most bound l'.length G lm (sz + z) (out ++ [((F1, F2), false)]) l') := Lib.hid (by have := HFN.out; rw [if_neg hbig] at this; exact d7_fuel this (Nat.le_trans HL3.out HRL.out))
                    have hzz := bk_size hos HZ32.out hbig
                    have HZG : Hid ((tz G : Int) ≤ lm) := Lib.hid HTG.out
                    have HLO : Hid ((out ++ [((F1, F2), false)]).length = out.length + 1) := Lib.hid (by simp)
                    have HS3 : Hid ((strB l').size = l'.length) := Lib.hid (strB_size l')
                    go_wp2_with (at_builtin; with_reducible refine wp_app rfl (.tmp 134) (.tmp 141) _ rfl hap rfl rfl rfl ?_)
                    exact ⟨⟨l', A10, out ++ [((F1, F2), false)], c10, sz + z, G, lm, A, c, rfl, by rw [HLO.out], by rw [hzz.2.2], d7_ten HL3.out hln2, hzz.2.1, by rw [HLO.out]; exact hzz.1, hl0, hl1, HZG.out, HGO.out, by rw [HLO.out]; exact HD10.out⟩, by simp only [siz7]; rw [HS3.out, hsz]; exact d7_less HL3.out HLT.out⟩
        · rw [List.length_cons, blockR_line hd 1 hkd (by decide) l2 hl2e] at hf2q
          have hnvv : decide ((1 : Nat) = 3) = false := rfl
          rw [hnvv] at hf2q
          have HFL := Lib.hid hf2q
          have HENT := Lib.hid (fun W (hli : Li7 W A c gs) => rf7_entry A c gs lm most bound false N W hli.rows (d7_gs hl1 hl2 HMX.out).2.1 hN)
          unfold En7P at HENT
          clear hf2q hd hkd hl2e hnvv
          generalize strB (x :: r) = S at *
          generalize bitsR x.toNat = bt at *
          generalize hxn : x.toNat = xn at *
          obtain ⟨ek0, ek1, ek2, ek3, ek4, ek5, ek6⟩ := kf1 hx1 hx2
          clear hx1
          clear hx2
          by_cases hN0 : N = 0
          · subst hN0
            as_aux_lemma =>
            have hNp : ¬ (0 : Int) < 0 := by decide
            rw [show ((0 : Nat) : Int) = 0 from rfl] at HPX
            go_wp2_with fail
            with_reducible refine (HBI.out _).mono ?_
            rintro e5 w5 ⟨rfl, rfl⟩
            go_wp2_with fail
            with_reducible refine (HPX.out _).mono ?_
            rintro e5 w5 ⟨rfl, hf5⟩
            have HD5 := Lib.hid (HD.out.fresh hf5)
            have HF5 := Lib.hid hf5
            clear hf5
            go_upto_region 19 with fail
            refine wp_gen (fun W => Blk W w5.heap.size 77 #[.string ⟨#[]⟩, .string ⟨#[]⟩] ∧ Fresh w5 W) ⟨Blk.new _ _ _, Fresh.alloc _ _⟩ ?_
            rintro W6 ⟨hb6, hf6⟩
            have HG0 : Hid (wr.heap.size ≤ w5.heap.size) := Lib.hid HF5.out.size
            generalize w5.heap.size = f0 at *
            have HB6 := Lib.hid hb6
            have HF6 := Lib.hid (HF5.out.trans hf6)
            have HD6 := Lib.hid (HD5.out.fresh hf6)
            clear hb6 hf6 HD5 HF5
            obtain ⟨q0, q1⟩ := HB6.out.c2
            go_upto_region 25 with fail
            obtain ⟨E1, hE1⟩ : ∃ E, (⟨#[]⟩ : ByteArray) = E := ⟨_, rfl⟩
            have HE1 := Lib.hid hE1
            rw [hE1] at HB6
            obtain ⟨E2, hE2⟩ : ∃ E, E1 = E := ⟨_, rfl⟩
            have HEN : Hid (∀ p, p = entR gs 0 → True) := Lib.hid (fun _ _ => trivial)
            refine wp_gen (fun W => Blk W f0 77 #[.string E1, .string E2] ∧ Fresh wr W) ⟨by rw [← hE2]; exact HB6.out, HF6.out⟩ ?_
            rintro W8 ⟨hb8, hf8⟩
            have HB8 := Lib.hid hb8
            have HF8 := Lib.hid hf8
            clear hb8 hf8 q0 q1 hE1 hE2
            have HINL := Lib.hid (inR_line gs 1 0 l2 (E1, E2) (fun hh => by rcases hh with hh | hh; (exact absurd hh (by decide)); exact absurd hh (by decide)))
            obtain ⟨IR, hIR⟩ : ∃ IR, inR 1 0 2 0 (E1, E2) l2 = IR := ⟨_, rfl⟩
            rw [hIR] at HINL
            have HIR0 := Lib.hid hIR
            have HLE : Hid (∀ e : Nat, e ≠ 0 → IR.1 = e → FR = (e, [], gs, lm)) := Lib.hid (fun e he hI => by
              have h1 := HINL.out.1
              have h2 := HFL.out
              rw [hI] at h1
              have hG : fsL gs lm 1 0 l2 = gs := by unfold fsL; rw [if_neg (fun hh => he (by rw [h1]; exact hh.2))]
              rw [← h1, hG, if_pos he] at h2
              exact h2)
            clear hIR
            go_wp2_with fail
            go_loopw [1, 15] (fun bx kx W => ∃ (k : Nat) (f : FldT) (l' : List UInt8), k ≤ 2 ∧ kx = .int .i64 (k : Int) ∧ bx = .string (strB l') ∧ l'.length ≤ l2.length ∧ inR 1 0 (2 - k) k f l' = IR ∧ Blk W f0 77 #[.string f.1, .string f.2] ∧ Fresh wr W) (fun _ kx _ => 2 - (intOf kx).toNat)
            case atStart => exact ⟨0, (E1, E2), l2, by decide, rfl, rfl, Nat.le_refl _, HIR0.out, HB8.out, HF8.out⟩
            case round =>
              obtain ⟨k, ⟨F1, F2⟩, l', hk, rfl, rfl, hl', hir, hbf, hfw⟩ := hrel
              have HIR := Lib.hid hir
              have HBF := Lib.hid hbf
              have HFW := Lib.hid hfw
              have HDW := Lib.hid (HD.out.fresh hfw)
              simp only at HBF
              clear hir hbf hfw HIR0 HB8 HF8
              rcases k012 hk with rfl | rfl | rfl
              · as_aux_lemma =>
                rw [show ((0 : Nat) : Int) = 0 from rfl]
                have HIR2 := HIR.out
                have HT := Lib.hid (fun W => rf4_decode W l' 4096 (d7_ten hl' hln2))
                have hus := fun h0 => (litR_used l' 4096 h0).2
                unfold Lit4P at HT
                obtain ⟨R4, hR4⟩ : ∃ R4, litR l' 4096 = R4 := ⟨_, rfl⟩
                rw [hR4] at HT hus
                obtain ⟨X, u4, e4⟩ := R4
                simp only at HT hus
                have hsz4 : (strB l').size = l'.length := strB_size l'
                have hcu4 : (strB l').extract u4 l'.length = strB (l'.drop u4) := str_drop7 _ _
                by_cases he4 : e4 = 0
                · subst he4
                  have hul := hus rfl
                  have hI : inR 1 0 (2 - 0 - 1) (0 + 1) (strB X, F2) (l'.drop u4) = IR := by
                    rw [← HIR2]
                    have h9 := inR_read (kd := 1) (n := 0) (m := 2 - 0 - 1) (k := 0) (f := (F1, F2)) (l := l') (by simp) (by rw [hR4]; simp)
                    rw [hR4] at h9
                    exact h9.symm
                  have HI := Lib.hid hI
                  have HL4 : Hid ((l'.drop u4).length ≤ l2.length) := Lib.hid (drop_le7 u4 hl')
                  have hu40 : (0 : Int) ≤ (u4 : Int) := Int.natCast_nonneg u4
                  have hu41 : (u4 : Int) ≤ (l'.length : Int) := Int.ofNat_le.2 hul
                  obtain ⟨q0, q1⟩ := HBF.out.c2
                  have qz := HBF.out.frozen 0
                  rw [show ((0 : Nat) : Int) = 0 from rfl] at HT
                  clear HIR2 hus hR4 hul hI
                  generalize l'.drop u4 = l3 at *
                  generalize strB l' = S' at *
                  generalize strB X = SX at *
                  generalize hll : l'.length = n' at *
                  go_wp2_with fail
                  with_reducible refine (HT.out _).mono ?_
                  rintro e5 w6 ⟨rfl, hf6⟩
                  have HB6 := Lib.hid (HBF.out.fresh hf6)
                  have HF6 := Lib.hid (HFW.out.trans hf6)
                  clear q0 q1 qz hf6
                  obtain ⟨q0, q1⟩ := HB6.out.c2
                  have qz := HB6.out.frozen 0
                  go_wp2
                  exact ⟨⟨0 + 1, (SX, F2), l3, by decide, by go_num, rfl, HL4.out, HI.out, by simpa using HB6.out.set 0 (.string SX), HF6.out.step _ _ HG0.out⟩, by simp [intOf]⟩
                · have hI : IR = (e4, (F1, F2), l') := by
                    rw [← HIR2]
                    have h9 := inR_err (kd := 1) (n := 0) (m := 2 - 0 - 1) (k := 0) (f := (F1, F2)) (l := l') (by simp) (by rw [hR4]; exact he4)
                    rw [hR4] at h9
                    exact h9
                  have HFE : Hid (FR = (e4, [], gs, lm)) := Lib.hid (HLE.out e4 he4 (by rw [hI]))
                  obtain ⟨h0d, h0i⟩ := nz4 he4
                  clear HIR2 hus hR4 hI hcu4
                  generalize strB l' = S' at *
                  generalize strB X = SX at *
                  go_wp2_with fail
                  with_reducible refine (HT.out _).mono ?_
                  rintro e5 w6 ⟨rfl, hf6⟩
                  have HD6 := Lib.hid (HDW.out.fresh hf6)
                  clear hf6
                  obtain ⟨pp0, pp1, pp2, pp3, pp4⟩ := (HD6.out).st.c5
                  have pz4 := (HD6.out).st.frozen 4
                  go_upto_region 32 with fail
                  (try clear hwa hwb hwc hwa' hwb' hwc' hbig)
                  (try clear hwa hwb hwc hwa' hwb' hwc')
                  (try clear ek0); (try clear ek1); (try clear ek2); (try clear ek3); (try clear ek4); (try clear ek5); (try clear ek6); (try clear hu3 hu4 hcu); (try clear hnp); (try clear hbd); (try clear hsb hos hl0 hl1 hl2 hr1); (try clear hxb); (try clear hln2); (try clear hu1 hu2 hN); (try clear hg hS0 hsz); (try clear hNp hNq hNr hNs); (try clear hNp)
                  refine wp_gen (fun W => Blk W s0 49 #[.slice A gs.length c, .int .i64 lm, .int .i64 most, .int .i64 bound, .bool true] ∧ Blk W r0 49 #[.slice none 0 0, .int .i64 0, .int .i64 0, .int .i64 0, .bool false] ∧ Only (fun k => k = s0 ∨ k = r0) w6 W) (d7_flag (HD6.out)) ?_
                  rintro WF ⟨hbf1, hbf2, hof⟩
                  clear pp0 pp1 pp2 pp3 pp4 pz4
                  obtain ⟨pp0, pp1, pp2, pp3, pp4⟩ := hbf1.c5
                  obtain ⟨oo0, oo1, oo2, oo3, oo4⟩ := hbf2.c5
                  have oz0 := hbf2.frozen 0
                  have oz1 := hbf2.frozen 1
                  have oz2 := hbf2.frozen 2
                  have oz3 := hbf2.frozen 3
                  have oz4 := hbf2.frozen 4
                  have HBF2 := Lib.hid hbf2
                  have HOF := Lib.hid hof
                  clear hbf1 hbf2 hof
                  go_wp2
                  refine wx_gen (fun W => Blk W r0 49 #[.slice A gs.length c, .int .i64 lm, .int .i64 most, .int .i64 bound, .bool true] ∧ Only (fun k => k = s0 ∨ k = r0) w6 W) (d7_out HBF2.out HOF.out) ?_
                  rintro W7 ⟨hb7, ho7⟩
                  obtain ⟨g0, g1, g2, g3, g4⟩ := hb7.c5
                  rw [← HQB.out]
                  exact bodyPost_ret (v := .tuple #[.agg #[.slice A gs.length c, .int .i64 lm, .int .i64 most, .int .i64 bound, .bool true], .slice none 0 0, .int .i64 (e4 : Int)]) (by simp [results, Try.results22, go_sem, g0, g1, g2, g3, g4]) rfl (HDIE.out e4 gs lm A c _ out s0 r0 w6 W7 he4 HFE.out HD6.out ho7)
              · as_aux_lemma =>
                rw [show ((1 : Nat) : Int) = 1 from rfl]
                have HIR2 := HIR.out
                have HT := Lib.hid (fun W => rf4_decode W l' 4096 (d7_ten hl' hln2))
                have hus := fun h0 => (litR_used l' 4096 h0).2
                unfold Lit4P at HT
                obtain ⟨R4, hR4⟩ : ∃ R4, litR l' 4096 = R4 := ⟨_, rfl⟩
                rw [hR4] at HT hus
                obtain ⟨X, u4, e4⟩ := R4
                simp only at HT hus
                have hsz4 : (strB l').size = l'.length := strB_size l'
                have hcu4 : (strB l').extract u4 l'.length = strB (l'.drop u4) := str_drop7 _ _
                by_cases he4 : e4 = 0
                · subst he4
                  have hul := hus rfl
                  have hI : inR 1 0 (2 - 1 - 1) (1 + 1) (F1, strB X) (l'.drop u4) = IR := by
                    rw [← HIR2]
                    have h9 := inR_read (kd := 1) (n := 0) (m := 2 - 1 - 1) (k := 1) (f := (F1, F2)) (l := l') (by simp) (by rw [hR4]; simp)
                    rw [hR4] at h9
                    exact h9.symm
                  have HI := Lib.hid hI
                  have HL4 : Hid ((l'.drop u4).length ≤ l2.length) := Lib.hid (drop_le7 u4 hl')
                  have hu40 : (0 : Int) ≤ (u4 : Int) := Int.natCast_nonneg u4
                  have hu41 : (u4 : Int) ≤ (l'.length : Int) := Int.ofNat_le.2 hul
                  obtain ⟨q0, q1⟩ := HBF.out.c2
                  have qz := HBF.out.frozen 1
                  rw [show ((0 : Nat) : Int) = 0 from rfl] at HT
                  clear HIR2 hus hR4 hul hI
                  generalize l'.drop u4 = l3 at *
                  generalize strB l' = S' at *
                  generalize strB X = SX at *
                  generalize hll : l'.length = n' at *
                  go_wp2_with fail
                  with_reducible refine (HT.out _).mono ?_
                  rintro e5 w6 ⟨rfl, hf6⟩
                  have HB6 := Lib.hid (HBF.out.fresh hf6)
                  have HF6 := Lib.hid (HFW.out.trans hf6)
                  clear q0 q1 qz hf6
                  obtain ⟨q0, q1⟩ := HB6.out.c2
                  have qz := HB6.out.frozen 1
                  go_wp2
                  exact ⟨⟨1 + 1, (F1, SX), l3, by decide, by go_num, rfl, HL4.out, HI.out, by simpa using HB6.out.set 1 (.string SX), HF6.out.step _ _ HG0.out⟩, by simp [intOf]⟩
                · have hI : IR = (e4, (F1, F2), l') := by
                    rw [← HIR2]
                    have h9 := inR_err (kd := 1) (n := 0) (m := 2 - 1 - 1) (k := 1) (f := (F1, F2)) (l := l') (by simp) (by rw [hR4]; exact he4)
                    rw [hR4] at h9
                    exact h9
                  have HFE : Hid (FR = (e4, [], gs, lm)) := Lib.hid (HLE.out e4 he4 (by rw [hI]))
                  obtain ⟨h0d, h0i⟩ := nz4 he4
                  clear HIR2 hus hR4 hI hcu4
                  generalize strB l' = S' at *
                  generalize strB X = SX at *
                  go_wp2_with fail
                  with_reducible refine (HT.out _).mono ?_
                  rintro e5 w6 ⟨rfl, hf6⟩
                  have HD6 := Lib.hid (HDW.out.fresh hf6)
                  clear hf6
                  obtain ⟨pp0, pp1, pp2, pp3, pp4⟩ := (HD6.out).st.c5
                  have pz4 := (HD6.out).st.frozen 4
                  go_upto_region 32 with fail
                  (try clear hwa hwb hwc hwa' hwb' hwc' hbig)
                  (try clear hwa hwb hwc hwa' hwb' hwc')
                  (try clear ek0); (try clear ek1); (try clear ek2); (try clear ek3); (try clear ek4); (try clear ek5); (try clear ek6); (try clear hu3 hu4 hcu); (try clear hnp); (try clear hbd); (try clear hsb hos hl0 hl1 hl2 hr1); (try clear hxb); (try clear hln2); (try clear hu1 hu2 hN); (try clear hg hS0 hsz); (try clear hNp hNq hNr hNs); (try clear hNp)
                  refine wp_gen (fun W => Blk W s0 49 #[.slice A gs.length c, .int .i64 lm, .int .i64 most, .int .i64 bound, .bool true] ∧ Blk W r0 49 #[.slice none 0 0, .int .i64 0, .int .i64 0, .int .i64 0, .bool false] ∧ Only (fun k => k = s0 ∨ k = r0) w6 W) (d7_flag (HD6.out)) ?_
                  rintro WF ⟨hbf1, hbf2, hof⟩
                  clear pp0 pp1 pp2 pp3 pp4 pz4
                  obtain ⟨pp0, pp1, pp2, pp3, pp4⟩ := hbf1.c5
                  obtain ⟨oo0, oo1, oo2, oo3, oo4⟩ := hbf2.c5
                  have oz0 := hbf2.frozen 0
                  have oz1 := hbf2.frozen 1
                  have oz2 := hbf2.frozen 2
                  have oz3 := hbf2.frozen 3
                  have oz4 := hbf2.frozen 4
                  have HBF2 := Lib.hid hbf2
                  have HOF := Lib.hid hof
                  clear hbf1 hbf2 hof
                  go_wp2
                  refine wx_gen (fun W => Blk W r0 49 #[.slice A gs.length c, .int .i64 lm, .int .i64 most, .int .i64 bound, .bool true] ∧ Only (fun k => k = s0 ∨ k = r0) w6 W) (d7_out HBF2.out HOF.out) ?_
                  rintro W7 ⟨hb7, ho7⟩
                  obtain ⟨g0, g1, g2, g3, g4⟩ := hb7.c5
                  rw [← HQB.out]
                  exact bodyPost_ret (v := .tuple #[.agg #[.slice A gs.length c, .int .i64 lm, .int .i64 most, .int .i64 bound, .bool true], .slice none 0 0, .int .i64 (e4 : Int)]) (by simp [results, Try.results22, go_sem, g0, g1, g2, g3, g4]) rfl (HDIE.out e4 gs lm A c _ out s0 r0 w6 W7 he4 HFE.out HD6.out ho7)
              · have h2 := HIR.out
                have h3 : IR = (0, (F1, F2), l') := by rw [← h2]; rfl
                have h4 := HINL.out
                rw [h3] at h4
                obtain ⟨h5, h6⟩ := h4
                obtain ⟨h7, h8⟩ := h6 h5.symm
                simp only at h5 h7 h8
                have hz1 := lineR_fz gs 1 0 l2 (d7_gs hl1 hl2 HMX.out).1
                rw [← h7] at hz1
                have HZF := Lib.hid hz1
                have h9 := HFL.out
                rw [if_neg (by rw [← h5]; simp), ← h7, ← h8] at h9
                have hG : fsL gs lm 1 0 l2 = addF gs lm (F1, F2) := by unfold fsL; rw [if_pos ⟨rfl, h5.symm⟩, ← h7]
                have HTG0 := Lib.hid (tz_fsL gs lm 1 0 l2 hl0 hl2)
                obtain ⟨G, hGG⟩ : ∃ G, fsL gs lm 1 0 l2 = G := ⟨_, rfl⟩
                rw [hGG] at hG h9 HTG0
                have HGE := Lib.hid hG
                have HTG := HTG0
                obtain ⟨l3, hl3⟩ : ∃ l3, l' = l3 := ⟨_, rfl⟩
                subst hl3
                have HFN : Hid (FR = if bound < (sz : Int) + (fz (F1, F2) : Int) then (22, [], G, lm) else blockR most bound r.length G lm (sz + fz (F1, F2)) (out ++ [((F1, F2), false)]) l') := Lib.hid h9
                have HL3 := Lib.hid hl'
                rw [show ((2 : Nat) : Int) = 2 from rfl]
                clear h2 h3 h5 h6 h7 h8 h9 hz1 hG hGG HTG0 HIR HINL HFL HLE
                have HAD := Lib.hid (rf_add A c gs lm (F1, F2) wr HDW.out.li.rows HDW.out.li.le HDW.out.li.max (d7_gs hl1 hl2 HMX.out).2.1 (d7_add (d7_gs hl1 hl2 HMX.out).1 HZF.out))
                obtain ⟨p0, p1, p2, p3, p4⟩ := HDW.out.st.c5
                obtain ⟨q0, q1⟩ := HBF.out.c2
                simp only at HAD
                go_wp2_with fail
                with_reducible refine HAD.out.mono ?_
                rintro e8 w8 ⟨A8, c8, rfl, hle8, hmax8, hm8, hp8, hf8⟩
                have HL8 : Hid (Li7 w8 A8 c8 (addF gs lm (F1, F2))) := Lib.hid ⟨hle8, hmax8, hm8, hp8⟩
                have HD8 := Lib.hid (HDW.out.fresh hf8)
                have HB8 := Lib.hid (HBF.out.fresh hf8)
                have HG8 := Lib.hid (HFW.out.trans hf8)
                clear hle8 hmax8 hm8 hp8 hf8 p0 p1 p2 p3 p4 q0 q1 HAD
                obtain ⟨p0, p1, p2, p3, p4⟩ := HD8.out.st.c5
                have pz0 := HD8.out.st.frozen 0
                have HGA : Hid (G = addF gs lm (F1, F2)) := Lib.hid HGE.out
                rw [← HGA.out] at HL8 ⊢
                go_upto_region 37 with fail
                refine wp_gen (fun W => Blk W s0 49 #[.slice A8 G.length c8, .int .i64 lm, .int .i64 most, .int .i64 bound, .bool false] ∧ Only (· = s0) w8 W) ⟨?_, ?_⟩ ?_
                · simpa using HD8.out.st.set 0 (.slice A8 G.length c8)
                · repeat (first | with_reducible exact Only.of_fresh (Fresh.refl _) | (with_reducible refine Only.step2 ?_ ?_; focus (simp)))
                rintro W9 ⟨hb9, ho9⟩
                have HD9 : Hid (D7 w W9 s0 r0 A8 c8 G lm most bound (.slice O out.length oc) out) := Lib.hid (HD8.out.tab HL8.out ho9 hb9)
                have HB9 : Hid (Blk W9 f0 77 #[.string F1, .string F2]) := Lib.hid (HB8.out.only ho9 (fun e => (HD8.out.apart f0 _ HB8.out).1 e))
                clear p0 p1 p2 p3 p4 pz0 hb9 ho9
                obtain ⟨A10, c10, w10, hap, hO10, hF10⟩ := lnr_push (w := W9) (base := r0 + 1) HD9.out.own HD9.out.room ((F1, F2), false) (d7_push (z := 0) hos hsb HB0.out.2) W9.heap.size rfl
                rw [show nvI false = 0 from rfl] at hap
                simp only at hap
                have HB10 : Hid (Blk w10 f0 77 #[.string F1, .string F2]) := Lib.hid (HB9.out.only hF10 (fun e => by
                  obtain ⟨cs', hb'⟩ := ownBlkD HD9.out.own e
                  exact HB9.out.ne hb' (by decide) rfl))
                have HD10 : Hid (D7 w w10 s0 r0 A8 c8 G lm most bound (.slice A10 (out.length + 1) c10) (out ++ [((F1, F2), false)])) := Lib.hid (HD9.out.push hO10 hF10)
                obtain ⟨q0, q1⟩ := HB9.out.c2
                clear hO10 hF10
                obtain ⟨q2, q3⟩ := HB10.out.c2
                obtain ⟨p0, p1, p2, p3, p4⟩ := HD10.out.st.c5
                obtain ⟨z, hz⟩ : ∃ z, fz (F1, F2) = z := ⟨_, rfl⟩
                have hzf := HZF.out
                rw [hz] at hzf HFN
                obtain ⟨hwa, hwb, hwc, hz32⟩ := d7_nums hz hzf hsb HB0.out
                have hwa' := (wrap_eq64 _).symm.trans hwa
                have hwb' := (wrap_eq64 _).symm.trans hwb
                have hwc' := (wrap_eq64 _).symm.trans hwc
                have HZ32 : Hid (32 ≤ z) := Lib.hid hz32
                clear hz hzf hz32
                by_cases hbig : bound < (sz : Int) + (z : Int)
                · as_aux_lemma =>
                  have HFE : Hid (FR = (22, [], G, lm)) := Lib.hid (by have := HFN.out; rw [if_pos hbig] at this; exact this)
                  go_upto_region 43 with (at_builtin; with_reducible refine wp_app rfl (.tmp 134) (.tmp 141) _ rfl hap rfl rfl rfl ?_)
                  clear p0 p1 p2 p3 p4 q0 q1 q2 q3 hap
                  obtain ⟨pp0, pp1, pp2, pp3, pp4⟩ := (HD10.out).st.c5
                  have pz4 := (HD10.out).st.frozen 4
                  go_upto_region 44 with fail
                  (try clear hwa hwb hwc hwa' hwb' hwc' hbig)
                  (try clear hwa hwb hwc hwa' hwb' hwc')
                  (try clear ek0); (try clear ek1); (try clear ek2); (try clear ek3); (try clear ek4); (try clear ek5); (try clear ek6); (try clear hu3 hu4 hcu); (try clear hnp); (try clear hbd); (try clear hsb hos hl0 hl1 hl2 hr1); (try clear hxb); (try clear hln2); (try clear hu1 hu2 hN); (try clear hg hS0 hsz); (try clear hNp hNq hNr hNs); (try clear hNp)
                  refine wp_gen (fun W => Blk W s0 49 #[.slice A8 G.length c8, .int .i64 lm, .int .i64 most, .int .i64 bound, .bool true] ∧ Blk W r0 49 #[.slice none 0 0, .int .i64 0, .int .i64 0, .int .i64 0, .bool false] ∧ Only (fun k => k = s0 ∨ k = r0) w10 W) (d7_flag (HD10.out)) ?_
                  rintro WF ⟨hbf1, hbf2, hof⟩
                  clear pp0 pp1 pp2 pp3 pp4 pz4
                  obtain ⟨pp0, pp1, pp2, pp3, pp4⟩ := hbf1.c5
                  obtain ⟨oo0, oo1, oo2, oo3, oo4⟩ := hbf2.c5
                  have oz0 := hbf2.frozen 0
                  have oz1 := hbf2.frozen 1
                  have oz2 := hbf2.frozen 2
                  have oz3 := hbf2.frozen 3
                  have oz4 := hbf2.frozen 4
                  have HBF2 := Lib.hid hbf2
                  have HOF := Lib.hid hof
                  clear hbf1 hbf2 hof
                  go_wp2
                  refine wx_gen (fun W => Blk W r0 49 #[.slice A8 G.length c8, .int .i64 lm, .int .i64 most, .int .i64 bound, .bool true] ∧ Only (fun k => k = s0 ∨ k = r0) w10 W) (d7_out HBF2.out HOF.out) ?_
                  rintro W7 ⟨hb7, ho7⟩
                  obtain ⟨g0, g1, g2, g3, g4⟩ := hb7.c5
                  rw [← HQB.out]
                  exact bodyPost_ret (v := .tuple #[.agg #[.slice A8 G.length c8, .int .i64 lm, .int .i64 most, .int .i64 bound, .bool true], .slice none 0 0, .int .i64 22]) (by simp [results, Try.results22, go_sem, g0, g1, g2, g3, g4]) rfl (HDIE.out 22 G lm A8 c8 _ _ s0 r0 w10 W7 (by decide) HFE.out HD10.out ho7)
                · as_aux_lemma =>
                  have HGO : Hid (FR = blockR most bound l'.length G lm (sz + z) (out ++ [((F1, F2), false)]) l') := Lib.hid (by have := HFN.out; rw [if_neg hbig] at this; exact d7_fuel this (Nat.le_trans HL3.out HRL.out))
                  have hzz := bk_size hos HZ32.out hbig
                  have HZG : Hid ((tz G : Int) ≤ lm) := Lib.hid HTG.out
                  have HLO : Hid ((out ++ [((F1, F2), false)]).length = out.length + 1) := Lib.hid (by simp)
                  have HS3 : Hid ((strB l').size = l'.length) := Lib.hid (strB_size l')
                  go_wp2_with (at_builtin; with_reducible refine wp_app rfl (.tmp 134) (.tmp 141) _ rfl hap rfl rfl rfl ?_)
                  exact ⟨⟨l', A10, out ++ [((F1, F2), false)], c10, sz + z, G, lm, A8, c8, rfl, by rw [HLO.out], by rw [hzz.2.2], d7_ten HL3.out hln2, hzz.2.1, by rw [HLO.out]; exact hzz.1, hl0, hl1, HZG.out, HGO.out, by rw [HLO.out]; exact HD10.out⟩, by simp only [siz7]; rw [HS3.out, hsz]; exact d7_less HL3.out HLT.out⟩
          · obtain ⟨hNp, hNq, hNr, hNs⟩ := pos4 hN0
            cases hen : entR gs N with
            | none =>
              as_aux_lemma =>
              go_wp2_with fail
              with_reducible refine (HBI.out _).mono ?_
              rintro e5 w5 ⟨rfl, rfl⟩
              go_wp2_with fail
              with_reducible refine (HPX.out _).mono ?_
              rintro e5 w5 ⟨rfl, hf5⟩
              have HD5 := Lib.hid (HD.out.fresh hf5)
              have HF5 := Lib.hid hf5
              clear hf5
              go_upto_region 19 with fail
              refine wp_gen (fun W => Blk W w5.heap.size 77 #[.string ⟨#[]⟩, .string ⟨#[]⟩] ∧ Fresh w5 W) ⟨Blk.new _ _ _, Fresh.alloc _ _⟩ ?_
              rintro W6 ⟨hb6, hf6⟩
              have HG0 : Hid (wr.heap.size ≤ w5.heap.size) := Lib.hid HF5.out.size
              generalize w5.heap.size = f0 at *
              have HB6 := Lib.hid hb6
              have HF6 := Lib.hid (HF5.out.trans hf6)
              have HD6 := Lib.hid (HD5.out.fresh hf6)
              clear hb6 hf6 HD5 HF5
              have HFE : Hid (FR = (23, [], gs, lm)) := Lib.hid (by
                have h2 := HFL.out
                have h3 : lineR gs 1 N l2 = (23, (strB [], strB []), 0) := by
                  unfold lineR
                  first
                  | (rw [if_pos rfl, hen]; done)
                  | (rw [if_neg (by decide)]; exact fieldR_entry_no hN0 hen)
                have hG : fsL gs lm 1 N l2 = gs := by unfold fsL; rw [if_neg (by rw [h3]; simp)]
                rw [hG, h3, if_pos (by simp)] at h2
                exact h2)
              obtain ⟨p0, p1, p2, p3, p4⟩ := HD6.out.st.c5
              rw [hen] at HENT
              simp only [nofV] at HENT
              clear hen HFL
              go_wp2_with fail
              with_reducible refine (HENT.out _ HD6.out.li).mono ?_
              rintro e7 w7 ⟨rfl, hf7⟩
              have HF7 := Lib.hid (HF6.out.trans hf7)
              have HB7 := Lib.hid (HB6.out.fresh hf7)
              clear hf7 p0 p1 p2 p3 p4
              obtain ⟨q0, q1⟩ := HB7.out.c2
              have qz0 := HB7.out.frozen 0
              have qz1 := HB7.out.frozen 1
              go_upto_region 22 with fail
              refine wp_gen (fun W => Fresh wr W) (by repeat (first | with_reducible exact HF7.out | (with_reducible refine Fresh.step2 ?_ ?_; focus (exact HG0.out)))) ?_
              intro w8 hf8
              have HD8 := Lib.hid (HD.out.fresh hf8)
              clear hf8 q0 q1 qz0 qz1
              obtain ⟨pp0, pp1, pp2, pp3, pp4⟩ := (HD8.out).st.c5
              have pz4 := (HD8.out).st.frozen 4
              go_upto_region 24 with fail
              (try clear hwa hwb hwc hwa' hwb' hwc' hbig)
              (try clear hwa hwb hwc hwa' hwb' hwc')
              (try clear ek0); (try clear ek1); (try clear ek2); (try clear ek3); (try clear ek4); (try clear ek5); (try clear ek6); (try clear hu3 hu4 hcu); (try clear hnp); (try clear hbd); (try clear hsb hos hl0 hl1 hl2 hr1); (try clear hxb); (try clear hln2); (try clear hu1 hu2 hN); (try clear hg hS0 hsz); (try clear hNp hNq hNr hNs); (try clear hNp)
              refine wp_gen (fun W => Blk W s0 49 #[.slice A gs.length c, .int .i64 lm, .int .i64 most, .int .i64 bound, .bool true] ∧ Blk W r0 49 #[.slice none 0 0, .int .i64 0, .int .i64 0, .int .i64 0, .bool false] ∧ Only (fun k => k = s0 ∨ k = r0) w8 W) (d7_flag (HD8.out)) ?_
              rintro WF ⟨hbf1, hbf2, hof⟩
              clear pp0 pp1 pp2 pp3 pp4 pz4
              obtain ⟨pp0, pp1, pp2, pp3, pp4⟩ := hbf1.c5
              obtain ⟨oo0, oo1, oo2, oo3, oo4⟩ := hbf2.c5
              have oz0 := hbf2.frozen 0
              have oz1 := hbf2.frozen 1
              have oz2 := hbf2.frozen 2
              have oz3 := hbf2.frozen 3
              have oz4 := hbf2.frozen 4
              have HBF2 := Lib.hid hbf2
              have HOF := Lib.hid hof
              clear hbf1 hbf2 hof
              go_wp2
              refine wx_gen (fun W => Blk W r0 49 #[.slice A gs.length c, .int .i64 lm, .int .i64 most, .int .i64 bound, .bool true] ∧ Only (fun k => k = s0 ∨ k = r0) w8 W) (d7_out HBF2.out HOF.out) ?_
              rintro W7 ⟨hb7, ho7⟩
              obtain ⟨g0, g1, g2, g3, g4⟩ := hb7.c5
              rw [← HQB.out]
              exact bodyPost_ret (v := .tuple #[.agg #[.slice A gs.length c, .int .i64 lm, .int .i64 most, .int .i64 bound, .bool true], .slice none 0 0, .int .i64 23]) (by simp [results, Try.results22, go_sem, g0, g1, g2, g3, g4]) rfl (HDIE.out 23 gs lm A c _ out s0 r0 w8 W7 (by decide) HFE.out HD8.out ho7)
            | some fe =>
              as_aux_lemma =>
              go_wp2_with fail
              with_reducible refine (HBI.out _).mono ?_
              rintro e5 w5 ⟨rfl, rfl⟩
              go_wp2_with fail
              with_reducible refine (HPX.out _).mono ?_
              rintro e5 w5 ⟨rfl, hf5⟩
              have HD5 := Lib.hid (HD.out.fresh hf5)
              have HF5 := Lib.hid hf5
              clear hf5
              go_upto_region 19 with fail
              refine wp_gen (fun W => Blk W w5.heap.size 77 #[.string ⟨#[]⟩, .string ⟨#[]⟩] ∧ Fresh w5 W) ⟨Blk.new _ _ _, Fresh.alloc _ _⟩ ?_
              rintro W6 ⟨hb6, hf6⟩
              have HG0 : Hid (wr.heap.size ≤ w5.heap.size) := Lib.hid HF5.out.size
              generalize w5.heap.size = f0 at *
              have HB6 := Lib.hid hb6
              have HF6 := Lib.hid (HF5.out.trans hf6)
              have HD6 := Lib.hid (HD5.out.fresh hf6)
              clear hb6 hf6 HD5 HF5
              obtain ⟨E1, E2⟩ := fe
              have HEN := Lib.hid hen
              obtain ⟨p0, p1, p2, p3, p4⟩ := HD6.out.st.c5
              rw [hen] at HENT
              simp only at HENT
              clear hen
              go_wp2_with fail
              with_reducible refine (HENT.out _ HD6.out.li).mono ?_
              rintro e7 w7 ⟨rfl, hf7⟩
              have HF7 := Lib.hid (HF6.out.trans hf7)
              have HB7 := Lib.hid (HB6.out.fresh hf7)
              clear hf7 p0 p1 p2 p3 p4
              obtain ⟨q0, q1⟩ := HB7.out.c2
              have qz0 := HB7.out.frozen 0
              have qz1 := HB7.out.frozen 1
              go_upto_region 25 with fail
              refine wp_gen (fun W => Blk W f0 77 #[.string E1, .string E2] ∧ Fresh wr W) ⟨by simpa using (HB7.out.set 0 (.string E1)).set 1 (.string E2), by repeat (first | with_reducible exact HF7.out | (with_reducible refine Fresh.step2 ?_ ?_; focus (exact HG0.out)))⟩ ?_
              rintro W8 ⟨hb8, hf8⟩
              have HB8 := Lib.hid hb8
              have HF8 := Lib.hid hf8
              clear hb8 hf8 q0 q1 qz0 qz1
              have HINL := Lib.hid (inR_line gs 1 N l2 (E1, E2) (fun _ => HEN.out))
              obtain ⟨IR, hIR⟩ : ∃ IR, inR 1 N 2 0 (E1, E2) l2 = IR := ⟨_, rfl⟩
              rw [hIR] at HINL
              have HIR0 := Lib.hid hIR
              have HLE : Hid (∀ e : Nat, e ≠ 0 → IR.1 = e → FR = (e, [], gs, lm)) := Lib.hid (fun e he hI => by
                have h1 := HINL.out.1
                have h2 := HFL.out
                rw [hI] at h1
                have hG : fsL gs lm 1 N l2 = gs := by unfold fsL; rw [if_neg (fun hh => he (by rw [h1]; exact hh.2))]
                rw [← h1, hG, if_pos he] at h2
                exact h2)
              clear hIR
              go_wp2_with fail
              go_loopw [1, 15] (fun bx kx W => ∃ (k : Nat) (f : FldT) (l' : List UInt8), k ≤ 2 ∧ kx = .int .i64 (k : Int) ∧ bx = .string (strB l') ∧ l'.length ≤ l2.length ∧ inR 1 N (2 - k) k f l' = IR ∧ Blk W f0 77 #[.string f.1, .string f.2] ∧ Fresh wr W) (fun _ kx _ => 2 - (intOf kx).toNat)
              case atStart => exact ⟨0, (E1, E2), l2, by decide, rfl, rfl, Nat.le_refl _, HIR0.out, HB8.out, HF8.out⟩
              case round =>
                obtain ⟨k, ⟨F1, F2⟩, l', hk, rfl, rfl, hl', hir, hbf, hfw⟩ := hrel
                have HIR := Lib.hid hir
                have HBF := Lib.hid hbf
                have HFW := Lib.hid hfw
                have HDW := Lib.hid (HD.out.fresh hfw)
                simp only at HBF
                clear hir hbf hfw HIR0 HB8 HF8
                rcases k012 hk with rfl | rfl | rfl
                · as_aux_lemma =>
                  rw [show ((0 : Nat) : Int) = 0 from rfl]
                  have hI : inR 1 N (2 - 0 - 1) (0 + 1) (F1, F2) l' = IR := by
                    rw [← HIR.out]
                    exact (inR_skip (.inr ⟨rfl, hNq⟩)).symm
                  have HI := Lib.hid hI
                  clear hI
                  go_wp2
                  exact ⟨⟨0 + 1, (F1, F2), l', by decide, by go_num, rfl, hl', HI.out, HBF.out, HFW.out⟩, by simp [intOf]⟩
                · as_aux_lemma =>
                  rw [show ((1 : Nat) : Int) = 1 from rfl]
                  have HIR2 := HIR.out
                  have HT := Lib.hid (fun W => rf4_decode W l' 4096 (d7_ten hl' hln2))
                  have hus := fun h0 => (litR_used l' 4096 h0).2
                  unfold Lit4P at HT
                  obtain ⟨R4, hR4⟩ : ∃ R4, litR l' 4096 = R4 := ⟨_, rfl⟩
                  rw [hR4] at HT hus
                  obtain ⟨X, u4, e4⟩ := R4
                  simp only at HT hus
                  have hsz4 : (strB l').size = l'.length := strB_size l'
                  have hcu4 : (strB l').extract u4 l'.length = strB (l'.drop u4) := str_drop7 _ _
                  by_cases he4 : e4 = 0
                  · subst he4
                    have hul := hus rfl
                    have hI : inR 1 N (2 - 1 - 1) (1 + 1) (F1, strB X) (l'.drop u4) = IR := by
                      rw [← HIR2]
                      have h9 := inR_read (kd := 1) (n := N) (m := 2 - 1 - 1) (k := 1) (f := (F1, F2)) (l := l') (by simp) (by rw [hR4]; simp)
                      rw [hR4] at h9
                      exact h9.symm
                    have HI := Lib.hid hI
                    have HL4 : Hid ((l'.drop u4).length ≤ l2.length) := Lib.hid (drop_le7 u4 hl')
                    have hu40 : (0 : Int) ≤ (u4 : Int) := Int.natCast_nonneg u4
                    have hu41 : (u4 : Int) ≤ (l'.length : Int) := Int.ofNat_le.2 hul
                    obtain ⟨q0, q1⟩ := HBF.out.c2
                    have qz := HBF.out.frozen 1
                    rw [show ((0 : Nat) : Int) = 0 from rfl] at HT
                    clear HIR2 hus hR4 hul hI
                    generalize l'.drop u4 = l3 at *
                    generalize strB l' = S' at *
                    generalize strB X = SX at *
                    generalize hll : l'.length = n' at *
                    go_wp2_with fail
                    with_reducible refine (HT.out _).mono ?_
                    rintro e5 w6 ⟨rfl, hf6⟩
                    have HB6 := Lib.hid (HBF.out.fresh hf6)
                    have HF6 := Lib.hid (HFW.out.trans hf6)
                    clear q0 q1 qz hf6
                    obtain ⟨q0, q1⟩ := HB6.out.c2
                    have qz := HB6.out.frozen 1
                    go_wp2
                    exact ⟨⟨1 + 1, (F1, SX), l3, by decide, by go_num, rfl, HL4.out, HI.out, by simpa using HB6.out.set 1 (.string SX), HF6.out.step _ _ HG0.out⟩, by simp [intOf]⟩
                  · have hI : IR = (e4, (F1, F2), l') := by
                      rw [← HIR2]
                      have h9 := inR_err (kd := 1) (n := N) (m := 2 - 1 - 1) (k := 1) (f := (F1, F2)) (l := l') (by simp) (by rw [hR4]; exact he4)
                      rw [hR4] at h9
                      exact h9
                    have HFE : Hid (FR = (e4, [], gs, lm)) := Lib.hid (HLE.out e4 he4 (by rw [hI]))
                    obtain ⟨h0d, h0i⟩ := nz4 he4
                    clear HIR2 hus hR4 hI hcu4
                    generalize strB l' = S' at *
                    generalize strB X = SX at *
                    go_wp2_with fail
                    with_reducible refine (HT.out _).mono ?_
                    rintro e5 w6 ⟨rfl, hf6⟩
                    have HD6 := Lib.hid (HDW.out.fresh hf6)
                    clear hf6
                    obtain ⟨pp0, pp1, pp2, pp3, pp4⟩ := (HD6.out).st.c5
                    have pz4 := (HD6.out).st.frozen 4
                    go_upto_region 32 with fail
                    (try clear hwa hwb hwc hwa' hwb' hwc' hbig)
                    (try clear hwa hwb hwc hwa' hwb' hwc')
                    (try clear ek0); (try clear ek1); (try clear ek2); (try clear ek3); (try clear ek4); (try clear ek5); (try clear ek6); (try clear hu3 hu4 hcu); (try clear hnp); (try clear hbd); (try clear hsb hos hl0 hl1 hl2 hr1); (try clear hxb); (try clear hln2); (try clear hu1 hu2 hN); (try clear hg hS0 hsz); (try clear hNp hNq hNr hNs); (try clear hNp)
                    refine wp_gen (fun W => Blk W s0 49 #[.slice A gs.length c, .int .i64 lm, .int .i64 most, .int .i64 bound, .bool true] ∧ Blk W r0 49 #[.slice none 0 0, .int .i64 0, .int .i64 0, .int .i64 0, .bool false] ∧ Only (fun k => k = s0 ∨ k = r0) w6 W) (d7_flag (HD6.out)) ?_
                    rintro WF ⟨hbf1, hbf2, hof⟩
                    clear pp0 pp1 pp2 pp3 pp4 pz4
                    obtain ⟨pp0, pp1, pp2, pp3, pp4⟩ := hbf1.c5
                    obtain ⟨oo0, oo1, oo2, oo3, oo4⟩ := hbf2.c5
                    have oz0 := hbf2.frozen 0
                    have oz1 := hbf2.frozen 1
                    have oz2 := hbf2.frozen 2
                    have oz3 := hbf2.frozen 3
                    have oz4 := hbf2.frozen 4
                    have HBF2 := Lib.hid hbf2
                    have HOF := Lib.hid hof
                    clear hbf1 hbf2 hof
                    go_wp2
                    refine wx_gen (fun W => Blk W r0 49 #[.slice A gs.length c, .int .i64 lm, .int .i64 most, .int .i64 bound, .bool true] ∧ Only (fun k => k = s0 ∨ k = r0) w6 W) (d7_out HBF2.out HOF.out) ?_
                    rintro W7 ⟨hb7, ho7⟩
                    obtain ⟨g0, g1, g2, g3, g4⟩ := hb7.c5
                    rw [← HQB.out]
                    exact bodyPost_ret (v := .tuple #[.agg #[.slice A gs.length c, .int .i64 lm, .int .i64 most, .int .i64 bound, .bool true], .slice none 0 0, .int .i64 (e4 : Int)]) (by simp [results, Try.results22, go_sem, g0, g1, g2, g3, g4]) rfl (HDIE.out e4 gs lm A c _ out s0 r0 w6 W7 he4 HFE.out HD6.out ho7)
                · have h2 := HIR.out
                  have h3 : IR = (0, (F1, F2), l') := by rw [← h2]; rfl
                  have h4 := HINL.out
                  rw [h3] at h4
                  obtain ⟨h5, h6⟩ := h4
                  obtain ⟨h7, h8⟩ := h6 h5.symm
                  simp only at h5 h7 h8
                  have hz1 := lineR_fz gs 1 N l2 (d7_gs hl1 hl2 HMX.out).1
                  rw [← h7] at hz1
                  have HZF := Lib.hid hz1
                  have h9 := HFL.out
                  rw [if_neg (by rw [← h5]; simp), ← h7, ← h8] at h9
                  have hG : fsL gs lm 1 N l2 = addF gs lm (F1, F2) := by unfold fsL; rw [if_pos ⟨rfl, h5.symm⟩, ← h7]
                  have HTG0 := Lib.hid (tz_fsL gs lm 1 N l2 hl0 hl2)
                  obtain ⟨G, hGG⟩ : ∃ G, fsL gs lm 1 N l2 = G := ⟨_, rfl⟩
                  rw [hGG] at hG h9 HTG0
                  have HGE := Lib.hid hG
                  have HTG := HTG0
                  obtain ⟨l3, hl3⟩ : ∃ l3, l' = l3 := ⟨_, rfl⟩
                  subst hl3
                  have HFN : Hid (FR = if bound < (sz : Int) + (fz (F1, F2) : Int) then (22, [], G, lm) else blockR most bound r.length G lm (sz + fz (F1, F2)) (out ++ [((F1, F2), false)]) l') := Lib.hid h9
                  have HL3 := Lib.hid hl'
                  rw [show ((2 : Nat) : Int) = 2 from rfl]
                  clear h2 h3 h5 h6 h7 h8 h9 hz1 hG hGG HTG0 HIR HINL HFL HLE
                  have HAD := Lib.hid (rf_add A c gs lm (F1, F2) wr HDW.out.li.rows HDW.out.li.le HDW.out.li.max (d7_gs hl1 hl2 HMX.out).2.1 (d7_add (d7_gs hl1 hl2 HMX.out).1 HZF.out))
                  obtain ⟨p0, p1, p2, p3, p4⟩ := HDW.out.st.c5
                  obtain ⟨q0, q1⟩ := HBF.out.c2
                  simp only at HAD
                  go_wp2_with fail
                  with_reducible refine HAD.out.mono ?_
                  rintro e8 w8 ⟨A8, c8, rfl, hle8, hmax8, hm8, hp8, hf8⟩
                  have HL8 : Hid (Li7 w8 A8 c8 (addF gs lm (F1, F2))) := Lib.hid ⟨hle8, hmax8, hm8, hp8⟩
                  have HD8 := Lib.hid (HDW.out.fresh hf8)
                  have HB8 := Lib.hid (HBF.out.fresh hf8)
                  have HG8 := Lib.hid (HFW.out.trans hf8)
                  clear hle8 hmax8 hm8 hp8 hf8 p0 p1 p2 p3 p4 q0 q1 HAD
                  obtain ⟨p0, p1, p2, p3, p4⟩ := HD8.out.st.c5
                  have pz0 := HD8.out.st.frozen 0
                  have HGA : Hid (G = addF gs lm (F1, F2)) := Lib.hid HGE.out
                  rw [← HGA.out] at HL8 ⊢
                  go_upto_region 37 with fail
                  refine wp_gen (fun W => Blk W s0 49 #[.slice A8 G.length c8, .int .i64 lm, .int .i64 most, .int .i64 bound, .bool false] ∧ Only (· = s0) w8 W) ⟨?_, ?_⟩ ?_
                  · simpa using HD8.out.st.set 0 (.slice A8 G.length c8)
                  · repeat (first | with_reducible exact Only.of_fresh (Fresh.refl _) | (with_reducible refine Only.step2 ?_ ?_; focus (simp)))
                  rintro W9 ⟨hb9, ho9⟩
                  have HD9 : Hid (D7 w W9 s0 r0 A8 c8 G lm most bound (.slice O out.length oc) out) := Lib.hid (HD8.out.tab HL8.out ho9 hb9)
                  have HB9 : Hid (Blk W9 f0 77 #[.string F1, .string F2]) := Lib.hid (HB8.out.only ho9 (fun e => (HD8.out.apart f0 _ HB8.out).1 e))
                  clear p0 p1 p2 p3 p4 pz0 hb9 ho9
                  obtain ⟨A10, c10, w10, hap, hO10, hF10⟩ := lnr_push (w := W9) (base := r0 + 1) HD9.out.own HD9.out.room ((F1, F2), false) (d7_push (z := 0) hos hsb HB0.out.2) W9.heap.size rfl
                  rw [show nvI false = 0 from rfl] at hap
                  simp only at hap
                  have HB10 : Hid (Blk w10 f0 77 #[.string F1, .string F2]) := Lib.hid (HB9.out.only hF10 (fun e => by
                    obtain ⟨cs', hb'⟩ := ownBlkD HD9.out.own e
                    exact HB9.out.ne hb' (by decide) rfl))
                  have HD10 : Hid (D7 w w10 s0 r0 A8 c8 G lm most bound (.slice A10 (out.length + 1) c10) (out ++ [((F1, F2), false)])) := Lib.hid (HD9.out.push hO10 hF10)
                  obtain ⟨q0, q1⟩ := HB9.out.c2
                  clear hO10 hF10
                  obtain ⟨q2, q3⟩ := HB10.out.c2
                  obtain ⟨p0, p1, p2, p3, p4⟩ := HD10.out.st.c5
                  obtain ⟨z, hz⟩ : ∃ z, fz (F1, F2) = z := ⟨_, rfl⟩
                  have hzf := HZF.out
                  rw [hz] at hzf HFN
                  obtain ⟨hwa, hwb, hwc, hz32⟩ := d7_nums hz hzf hsb HB0.out
                  have hwa' := (wrap_eq64 _).symm.trans hwa
                  have hwb' := (wrap_eq64 _).symm.trans hwb
                  have hwc' := (wrap_eq64 _).symm.trans hwc
                  have HZ32 : Hid (32 ≤ z) := Lib.hid hz32
                  clear hz hzf hz32
                  by_cases hbig : bound < (sz : Int) + (z : Int)
                  · as_aux_lemma =>
                    have HFE : Hid (FR = (22, [], G, lm)) := Lib.hid (by have := HFN.out; rw [if_pos hbig] at this; exact this)
                    go_upto_region 43 with (at_builtin; with_reducible refine wp_app rfl (.tmp 134) (.tmp 141) _ rfl hap rfl rfl rfl ?_)
                    clear p0 p1 p2 p3 p4 q0 q1 q2 q3 hap
                    obtain ⟨pp0, pp1, pp2, pp3, pp4⟩ := (HD10.out).st.c5
                    have pz4 := (HD10.out).st.frozen 4
                    go_upto_region 44 with fail
                    (try clear hwa hwb hwc hwa' hwb' hwc' hbig)
                    (try clear hwa hwb hwc hwa' hwb' hwc')
                    (try clear ek0); (try clear ek1); (try clear ek2); (try clear ek3); (try clear ek4); (try clear ek5); (try clear ek6); (try clear hu3 hu4 hcu); (try clear hnp); (try clear hbd); (try clear hsb hos hl0 hl1 hl2 hr1); (try clear hxb); (try clear hln2); (try clear hu1 hu2 hN); (try clear hg hS0 hsz); (try clear hNp hNq hNr hNs); (try clear hNp)
                    refine wp_gen (fun W => Blk W s0 49 #[.slice A8 G.length c8, .int .i64 lm, .int .i64 most, .int .i64 bound, .bool true] ∧ Blk W r0 49 #[.slice none 0 0, .int .i64 0, .int .i64 0, .int .i64 0, .bool false] ∧ Only (fun k => k = s0 ∨ k = r0) w10 W) (d7_flag (HD10.out)) ?_
                    rintro WF ⟨hbf1, hbf2, hof⟩
                    clear pp0 pp1 pp2 pp3 pp4 pz4
                    obtain ⟨pp0, pp1, pp2, pp3, pp4⟩ := hbf1.c5
                    obtain ⟨oo0, oo1, oo2, oo3, oo4⟩ := hbf2.c5
                    have oz0 := hbf2.frozen 0
                    have oz1 := hbf2.frozen 1
                    have oz2 := hbf2.frozen 2
                    have oz3 := hbf2.frozen 3
                    have oz4 := hbf2.frozen 4
                    have HBF2 := Lib.hid hbf2
                    have HOF := Lib.hid hof
                    clear hbf1 hbf2 hof
                    go_wp2
                    refine wx_gen (fun W => Blk W r0 49 #[.slice A8 G.length c8, .int .i64 lm, .int .i64 most, .int .i64 bound, .bool true] ∧ Only (fun k => k = s0 ∨ k = r0) w10 W) (d7_out HBF2.out HOF.out) ?_
                    rintro W7 ⟨hb7, ho7⟩
                    obtain ⟨g0, g1, g2, g3, g4⟩ := hb7.c5
                    rw [← HQB.out]
                    exact bodyPost_ret (v := .tuple #[.agg #[.slice A8 G.length c8, .int .i64 lm, .int .i64 most, .int .i64 bound, .bool true], .slice none 0 0, .int .i64 22]) (by simp [results, Try.results22, go_sem, g0, g1, g2, g3, g4]) rfl (HDIE.out 22 G lm A8 c8 _ _ s0 r0 w10 W7 (by decide) HFE.out HD10.out ho7)
                  · as_aux_lemma =>
                    have HGO : Hid (FR = blockR most bound l'.length G lm (sz + z) (out ++ [((F1, F2), false)]) l') := Lib.hid (by have := HFN.out; rw [if_neg hbig] at this; exact d7_fuel this (Nat.le_trans HL3.out HRL.out))
                    have hzz := bk_size hos HZ32.out hbig
                    have HZG : Hid ((tz G : Int) ≤ lm) := Lib.hid HTG.out
                    have HLO : Hid ((out ++ [((F1, F2), false)]).length = out.length + 1) := Lib.hid (by simp)
                    have HS3 : Hid ((strB l').size = l'.length) := Lib.hid (strB_size l')
                    go_wp2_with (at_builtin; with_reducible refine wp_app rfl (.tmp 134) (.tmp 141) _ rfl hap rfl rfl rfl ?_)
                    exact ⟨⟨l', A10, out ++ [((F1, F2), false)], c10, sz + z, G, lm, A8, c8, rfl, by rw [HLO.out], by rw [hzz.2.2], d7_ten HL3.out hln2, hzz.2.1, by rw [HLO.out]; exact hzz.1, hl0, hl1, HZG.out, HGO.out, by rw [HLO.out]; exact HD10.out⟩, by simp only [siz7]; rw [HS3.out, hsz]; exact d7_less HL3.out HLT.out⟩
        · by_cases hno : 0 < out.length ∨ most < (N : Int)
          · rw [List.length_cons, blockR_lim_no hd hkd hno] at hf2q
            have HFE := Lib.hid hf2q
            clear hf2q hd hkd
            generalize strB (x :: r) = S at *
            generalize bitsR x.toNat = bt at *
            generalize hxn : x.toNat = xn at *
            obtain ⟨ek0, ek1⟩ := kf2 hx1 hx2
            clear HLT HRL HS2 hl2e
            have hfst : ¬ (0 : Int) < (out.length : Int) → most < (N : Int) := fun hh => by omega
            by_cases hol : 0 < out.length
            · as_aux_lemma =>
              have hol2 : (0 : Int) < (out.length : Int) := by omega
              have hol3 : 0 < out.length := hol
              have hol4 : decide ((0 : Int) < (out.length : Int)) = true := decide_eq_true hol2
              have hol5 : decide (0 < out.length) = true := decide_eq_true hol3
              clear hfst hno hol
              go_wp2_with fail
              with_reducible refine (HBI.out _).mono ?_
              rintro e5 w5 ⟨rfl, rfl⟩
              go_wp2_with fail
              with_reducible refine (HPX.out _).mono ?_
              rintro e5 w5 ⟨rfl, hf5⟩
              have HD5 := Lib.hid (HD.out.fresh hf5)
              have HF5 := Lib.hid hf5
              clear hf5
              obtain ⟨p0, p1, p2, p3, p4⟩ := HD5.out.st.c5
              go_upto_region 14 with fail
              clear p0 p1 p2 p3 p4
              obtain ⟨pp0, pp1, pp2, pp3, pp4⟩ := (HD5.out).st.c5
              have pz4 := (HD5.out).st.frozen 4
              go_upto_region 15 with fail
              (try clear hwa hwb hwc hwa' hwb' hwc' hbig)
              (try clear hwa hwb hwc hwa' hwb' hwc')
              (try clear ek0); (try clear ek1); (try clear ek2); (try clear ek3); (try clear ek4); (try clear ek5); (try clear ek6); (try clear hu3 hu4 hcu); (try clear hnp); (try clear hbd); (try clear hsb hos hl0 hl1 hl2 hr1); (try clear hxb); (try clear hln2); (try clear hu1 hu2 hN); (try clear hg hS0 hsz); (try clear hNp hNq hNr hNs); (try clear hNp)
              refine wp_gen (fun W => Blk W s0 49 #[.slice A gs.length c, .int .i64 lm, .int .i64 most, .int .i64 bound, .bool true] ∧ Blk W r0 49 #[.slice none 0 0, .int .i64 0, .int .i64 0, .int .i64 0, .bool false] ∧ Only (fun k => k = s0 ∨ k = r0) w5 W) (d7_flag (HD5.out)) ?_
              rintro WF ⟨hbf1, hbf2, hof⟩
              clear pp0 pp1 pp2 pp3 pp4 pz4
              obtain ⟨pp0, pp1, pp2, pp3, pp4⟩ := hbf1.c5
              obtain ⟨oo0, oo1, oo2, oo3, oo4⟩ := hbf2.c5
              have oz0 := hbf2.frozen 0
              have oz1 := hbf2.frozen 1
              have oz2 := hbf2.frozen 2
              have oz3 := hbf2.frozen 3
              have oz4 := hbf2.frozen 4
              have HBF2 := Lib.hid hbf2
              have HOF := Lib.hid hof
              clear hbf1 hbf2 hof
              go_wp2
              refine wx_gen (fun W => Blk W r0 49 #[.slice A gs.length c, .int .i64 lm, .int .i64 most, .int .i64 bound, .bool true] ∧ Only (fun k => k = s0 ∨ k = r0) w5 W) (d7_out HBF2.out HOF.out) ?_
              rintro W7 ⟨hb7, ho7⟩
              obtain ⟨g0, g1, g2, g3, g4⟩ := hb7.c5
              rw [← HQB.out]
              exact bodyPost_ret (v := .tuple #[.agg #[.slice A gs.length c, .int .i64 lm, .int .i64 most, .int .i64 bound, .bool true], .slice none 0 0, .int .i64 24]) (by simp [results, Try.results22, go_sem, g0, g1, g2, g3, g4]) rfl (HDIE.out 24 gs lm A c _ out s0 r0 w5 W7 (by decide) HFE.out HD5.out ho7)
            · as_aux_lemma =>
              have hol2 : ¬ (0 : Int) < (out.length : Int) := by omega
              have hol3 : ¬ 0 < out.length := hol
              have hol4 : decide ((0 : Int) < (out.length : Int)) = false := decide_eq_false hol2
              have hol5 : decide (0 < out.length) = false := decide_eq_false hol3
              have hmn : most < (N : Int) := hfst hol2
              clear hfst hno hol
              go_wp2_with fail
              with_reducible refine (HBI.out _).mono ?_
              rintro e5 w5 ⟨rfl, rfl⟩
              go_wp2_with fail
              with_reducible refine (HPX.out _).mono ?_
              rintro e5 w5 ⟨rfl, hf5⟩
              have HD5 := Lib.hid (HD.out.fresh hf5)
              have HF5 := Lib.hid hf5
              clear hf5
              obtain ⟨p0, p1, p2, p3, p4⟩ := HD5.out.st.c5
              go_upto_region 14 with fail
              clear p0 p1 p2 p3 p4
              obtain ⟨pp0, pp1, pp2, pp3, pp4⟩ := (HD5.out).st.c5
              have pz4 := (HD5.out).st.frozen 4
              go_upto_region 15 with fail
              (try clear hwa hwb hwc hwa' hwb' hwc' hbig)
              (try clear hwa hwb hwc hwa' hwb' hwc')
              (try clear ek0); (try clear ek1); (try clear ek2); (try clear ek3); (try clear ek4); (try clear ek5); (try clear ek6); (try clear hu3 hu4 hcu); (try clear hnp); (try clear hbd); (try clear hsb hos hl0 hl1 hl2 hr1); (try clear hxb); (try clear hln2); (try clear hu1 hu2 hN); (try clear hg hS0 hsz); (try clear hNp hNq hNr hNs); (try clear hNp)
              refine wp_gen (fun W => Blk W s0 49 #[.slice A gs.length c, .int .i64 lm, .int .i64 most, .int .i64 bound, .bool true] ∧ Blk W r0 49 #[.slice none 0 0, .int .i64 0, .int .i64 0, .int .i64 0, .bool false] ∧ Only (fun k => k = s0 ∨ k = r0) w5 W) (d7_flag (HD5.out)) ?_
              rintro WF ⟨hbf1, hbf2, hof⟩
              clear pp0 pp1 pp2 pp3 pp4 pz4
              obtain ⟨pp0, pp1, pp2, pp3, pp4⟩ := hbf1.c5
              obtain ⟨oo0, oo1, oo2, oo3, oo4⟩ := hbf2.c5
              have oz0 := hbf2.frozen 0
              have oz1 := hbf2.frozen 1
              have oz2 := hbf2.frozen 2
              have oz3 := hbf2.frozen 3
              have oz4 := hbf2.frozen 4
              have HBF2 := Lib.hid hbf2
              have HOF := Lib.hid hof
              clear hbf1 hbf2 hof
              go_wp2
              refine wx_gen (fun W => Blk W r0 49 #[.slice A gs.length c, .int .i64 lm, .int .i64 most, .int .i64 bound, .bool true] ∧ Only (fun k => k = s0 ∨ k = r0) w5 W) (d7_out HBF2.out HOF.out) ?_
              rintro W7 ⟨hb7, ho7⟩
              obtain ⟨g0, g1, g2, g3, g4⟩ := hb7.c5
              rw [← HQB.out]
              exact bodyPost_ret (v := .tuple #[.agg #[.slice A gs.length c, .int .i64 lm, .int .i64 most, .int .i64 bound, .bool true], .slice none 0 0, .int .i64 24]) (by simp [results, Try.results22, go_sem, g0, g1, g2, g3, g4]) rfl (HDIE.out 24 gs lm A c _ out s0 r0 w5 W7 (by decide) HFE.out HD5.out ho7)
          · as_aux_lemma =>
            rw [List.length_cons, blockR_lim hd hkd hno, hl2e] at hf2q
            have hol2 : ¬ (0 : Int) < (out.length : Int) := by omega
            have hol3 : ¬ 0 < out.length := by omega
            have hol4 : decide ((0 : Int) < (out.length : Int)) = false := decide_eq_false hol2
            have hol5 : decide (0 < out.length) = false := decide_eq_false hol3
            have HOL0 : Hid (out.length = 0) := Lib.hid (by omega)
            have hmn : ¬ most < (N : Int) := by omega
            have HGO : Hid (FR = blockR most bound l2.length (gs.drop (goneN gs N)) N sz out l2) := Lib.hid (d7_fuel hf2q HRL.out)
            have HZ : Hid ((tz (gs.drop (goneN gs N)) : Int) ≤ (N : Int)) := Lib.hid (tz_gone_nat gs N)
            have HRZ := Lib.hid (fun W (hli : Li7 W A c gs) => rf_resize A c gs (N : Int) W hli.rows hli.le hli.max (d7_gs hl1 hl2 HMX.out).2.1 (d7_gs hl1 hl2 HMX.out).2.2)
            have hNm : (N : Int) ≤ most := by omega
            clear hf2q hd hkd hno
            generalize strB (x :: r) = S at *
            generalize bitsR x.toNat = bt at *
            generalize hxn : x.toNat = xn at *
            obtain ⟨ek0, ek1⟩ := kf2 hx1 hx2
            go_wp2_with fail
            with_reducible refine (HBI.out _).mono ?_
            rintro e5 w5 ⟨rfl, rfl⟩
            go_wp2_with fail
            with_reducible refine (HPX.out _).mono ?_
            rintro e5 w5 ⟨rfl, hf5⟩
            have HD5 := Lib.hid (HD.out.fresh hf5)
            have HF5 := Lib.hid hf5
            clear hf5
            obtain ⟨p0, p1, p2, p3, p4⟩ := HD5.out.st.c5
            have pz1 := HD5.out.st.frozen 1
            go_upto_region 17 with fail
            refine wp_gen (fun W => Blk W s0 49 #[.slice A gs.length c, .int .i64 (N : Int), .int .i64 most, .int .i64 bound, .bool false] ∧ Only (· = s0) w5 W) ⟨?_, ?_⟩ ?_
            · simpa using HD5.out.st.set 1 (.int .i64 (N : Int))
            · repeat (first | with_reducible exact Only.of_fresh (Fresh.refl _) | (with_reducible refine Only.step2 ?_ ?_; focus (simp)))
            rintro W6 ⟨hb6, ho6⟩
            have HD6 : Hid (D7 w W6 s0 r0 A c gs N most bound (.slice O out.length oc) out) := Lib.hid (HD5.out.tab HD5.out.li ho6 hb6)
            clear p0 p1 p2 p3 p4 pz1 hb6 ho6
            obtain ⟨p0, p1, p2, p3, p4⟩ := HD6.out.st.c5
            go_wp2_with fail
            with_reducible refine (HRZ.out _ HD6.out.li).mono ?_
            rintro e7 w7 ⟨rfl, hf7⟩
            have HD7 := Lib.hid (HD6.out.fresh hf7)
            clear hf7 p0 p1 p2 p3 p4
            obtain ⟨p0, p1, p2, p3, p4⟩ := HD7.out.st.c5
            have pz0 := HD7.out.st.frozen 0
            have HLN : Hid ((gs.drop (goneN gs N)).length = gs.length - goneN gs N) := Lib.hid (List.length_drop)
            have HL7 : Hid (Li7 w7 A c (gs.drop (goneN gs N))) := Lib.hid (by
              have hli := HD7.out.li
              refine ⟨by rw [List.length_drop]; have := hli.le; omega, hli.max, ?_, ?_⟩
              · rw [← take_rev]; exact hli.rows.takeD _
              · intro hpos
                exact hli.row (by rw [List.length_drop] at hpos; omega))
            go_wp2
            refine ⟨⟨l2, O, out, oc, sz, gs.drop (goneN gs N), N, A, c, rfl, by first | rfl | rw [HOL0.out], rfl, hln2, hsb, hos, by omega, hNm, HZ.out, HGO.out, HD7.out.tab HL7.out ((Only.of_fresh (Fresh.refl _)).step2 (.inl rfl)) (by rw [HLN.out]; simpa using HD7.out.st.set 0 (.slice A (gs.length - goneN gs N) c))⟩, by simp only [siz7]; rw [HS2.out, hsz]; exact HLT.out⟩
        · rw [List.length_cons, blockR_line hd 3 hkd (by decide) l2 hl2e] at hf2q
          have hnvv : decide ((3 : Nat) = 3) = true := rfl
          rw [hnvv] at hf2q
          have HFL := Lib.hid hf2q
          have HENT := Lib.hid (fun W (hli : Li7 W A c gs) => rf7_entry A c gs lm most bound false N W hli.rows (d7_gs hl1 hl2 HMX.out).2.1 hN)
          unfold En7P at HENT
          clear hf2q hd hkd hl2e hnvv
          generalize strB (x :: r) = S at *
          generalize bitsR x.toNat = bt at *
          generalize hxn : x.toNat = xn at *
          obtain ⟨ek0, ek1, ek2, ek3, ek4⟩ := kf3 hx1 hx2
          clear hx1
          clear hx2
          by_cases hN0 : N = 0
          · subst hN0
            as_aux_lemma =>
            have hNp : ¬ (0 : Int) < 0 := by decide
            rw [show ((0 : Nat) : Int) = 0 from rfl] at HPX
            go_wp2_with fail
            with_reducible refine (HBI.out _).mono ?_
            rintro e5 w5 ⟨rfl, rfl⟩
            go_wp2_with fail
            with_reducible refine (HPX.out _).mono ?_
            rintro e5 w5 ⟨rfl, hf5⟩
            have HD5 := Lib.hid (HD.out.fresh hf5)
            have HF5 := Lib.hid hf5
            clear hf5
            go_upto_region 19 with fail
            refine wp_gen (fun W => Blk W w5.heap.size 77 #[.string ⟨#[]⟩, .string ⟨#[]⟩] ∧ Fresh w5 W) ⟨Blk.new _ _ _, Fresh.alloc _ _⟩ ?_
            rintro W6 ⟨hb6, hf6⟩
            have HG0 : Hid (wr.heap.size ≤ w5.heap.size) := Lib.hid HF5.out.size
            generalize w5.heap.size = f0 at *
            have HB6 := Lib.hid hb6
            have HF6 := Lib.hid (HF5.out.trans hf6)
            have HD6 := Lib.hid (HD5.out.fresh hf6)
            clear hb6 hf6 HD5 HF5
            obtain ⟨q0, q1⟩ := HB6.out.c2
            go_upto_region 25 with fail
            obtain ⟨E1, hE1⟩ : ∃ E, (⟨#[]⟩ : ByteArray) = E := ⟨_, rfl⟩
            have HE1 := Lib.hid hE1
            rw [hE1] at HB6
            obtain ⟨E2, hE2⟩ : ∃ E, E1 = E := ⟨_, rfl⟩
            have HEN : Hid (∀ p, p = entR gs 0 → True) := Lib.hid (fun _ _ => trivial)
            refine wp_gen (fun W => Blk W f0 77 #[.string E1, .string E2] ∧ Fresh wr W) ⟨by rw [← hE2]; exact HB6.out, HF6.out⟩ ?_
            rintro W8 ⟨hb8, hf8⟩
            have HB8 := Lib.hid hb8
            have HF8 := Lib.hid hf8
            clear hb8 hf8 q0 q1 hE1 hE2
            have HINL := Lib.hid (inR_line gs 3 0 l2 (E1, E2) (fun hh => by rcases hh with hh | hh; (exact absurd hh (by decide)); exact absurd hh (by decide)))
            obtain ⟨IR, hIR⟩ : ∃ IR, inR 3 0 2 0 (E1, E2) l2 = IR := ⟨_, rfl⟩
            rw [hIR] at HINL
            have HIR0 := Lib.hid hIR
            have HLE : Hid (∀ e : Nat, e ≠ 0 → IR.1 = e → FR = (e, [], gs, lm)) := Lib.hid (fun e he hI => by
              have h1 := HINL.out.1
              have h2 := HFL.out
              rw [hI] at h1
              have hG : fsL gs lm 3 0 l2 = gs := by unfold fsL; rw [if_neg (fun hh => he (by rw [h1]; exact hh.2))]
              rw [← h1, hG, if_pos he] at h2
              exact h2)
            clear hIR
            go_wp2_with fail
            go_loopw [1, 15] (fun bx kx W => ∃ (k : Nat) (f : FldT) (l' : List UInt8), k ≤ 2 ∧ kx = .int .i64 (k : Int) ∧ bx = .string (strB l') ∧ l'.length ≤ l2.length ∧ inR 3 0 (2 - k) k f l' = IR ∧ Blk W f0 77 #[.string f.1, .string f.2] ∧ Fresh wr W) (fun _ kx _ => 2 - (intOf kx).toNat)
            case atStart => exact ⟨0, (E1, E2), l2, by decide, rfl, rfl, Nat.le_refl _, HIR0.out, HB8.out, HF8.out⟩
            case round =>
              obtain ⟨k, ⟨F1, F2⟩, l', hk, rfl, rfl, hl', hir, hbf, hfw⟩ := hrel
              have HIR := Lib.hid hir
              have HBF := Lib.hid hbf
              have HFW := Lib.hid hfw
              have HDW := Lib.hid (HD.out.fresh hfw)
              simp only at HBF
              clear hir hbf hfw HIR0 HB8 HF8
              rcases k012 hk with rfl | rfl | rfl
              · as_aux_lemma =>
                rw [show ((0 : Nat) : Int) = 0 from rfl]
                have HIR2 := HIR.out
                have HT := Lib.hid (fun W => rf4_decode W l' 4096 (d7_ten hl' hln2))
                have hus := fun h0 => (litR_used l' 4096 h0).2
                unfold Lit4P at HT
                obtain ⟨R4, hR4⟩ : ∃ R4, litR l' 4096 = R4 := ⟨_, rfl⟩
                rw [hR4] at HT hus
                obtain ⟨X, u4, e4⟩ := R4
                simp only at HT hus
                have hsz4 : (strB l').size = l'.length := strB_size l'
                have hcu4 : (strB l').extract u4 l'.length = strB (l'.drop u4) := str_drop7 _ _
                by_cases he4 : e4 = 0
                · subst he4
                  have hul := hus rfl
                  have hI : inR 3 0 (2 - 0 - 1) (0 + 1) (strB X, F2) (l'.drop u4) = IR := by
                    rw [← HIR2]
                    have h9 := inR_read (kd := 3) (n := 0) (m := 2 - 0 - 1) (k := 0) (f := (F1, F2)) (l := l') (by simp) (by rw [hR4]; simp)
                    rw [hR4] at h9
                    exact h9.symm
                  have HI := Lib.hid hI
                  have HL4 : Hid ((l'.drop u4).length ≤ l2.length) := Lib.hid (drop_le7 u4 hl')
                  have hu40 : (0 : Int) ≤ (u4 : Int) := Int.natCast_nonneg u4
                  have hu41 : (u4 : Int) ≤ (l'.length : Int) := Int.ofNat_le.2 hul
                  obtain ⟨q0, q1⟩ := HBF.out.c2
                  have qz := HBF.out.frozen 0
                  rw [show ((0 : Nat) : Int) = 0 from rfl] at HT
                  clear HIR2 hus hR4 hul hI
                  generalize l'.drop u4 = l3 at *
                  generalize strB l' = S' at *
                  generalize strB X = SX at *
                  generalize hll : l'.length = n' at *
                  go_wp2_with fail
                  with_reducible refine (HT.out _).mono ?_
                  rintro e5 w6 ⟨rfl, hf6⟩
                  have HB6 := Lib.hid (HBF.out.fresh hf6)
                  have HF6 := Lib.hid (HFW.out.trans hf6)
                  clear q0 q1 qz hf6
                  obtain ⟨q0, q1⟩ := HB6.out.c2
                  have qz := HB6.out.frozen 0
                  go_wp2
                  exact ⟨⟨0 + 1, (SX, F2), l3, by decide, by go_num, rfl, HL4.out, HI.out, by simpa using HB6.out.set 0 (.string SX), HF6.out.step _ _ HG0.out⟩, by simp [intOf]⟩
                · have hI : IR = (e4, (F1, F2), l') := by
                    rw [← HIR2]
                    have h9 := inR_err (kd := 3) (n := 0) (m := 2 - 0 - 1) (k := 0) (f := (F1, F2)) (l := l') (by simp) (by rw [hR4]; exact he4)
                    rw [hR4] at h9
                    exact h9
                  have HFE : Hid (FR = (e4, [], gs, lm)) := Lib.hid (HLE.out e4 he4 (by rw [hI]))
                  obtain ⟨h0d, h0i⟩ := nz4 he4
                  clear HIR2 hus hR4 hI hcu4
                  generalize strB l' = S' at *
                  generalize strB X = SX at *
                  go_wp2_with fail
                  with_reducible refine (HT.out _).mono ?_
                  rintro e5 w6 ⟨rfl, hf6⟩
                  have HD6 := Lib.hid (HDW.out.fresh hf6)
                  clear hf6
                  obtain ⟨pp0, pp1, pp2, pp3, pp4⟩ := (HD6.out).st.c5
                  have pz4 := (HD6.out).st.frozen 4
                  go_upto_region 32 with fail
                  (try clear hwa hwb hwc hwa' hwb' hwc' hbig)
                  (try clear hwa hwb hwc hwa' hwb' hwc')
                  (try clear ek0); (try clear ek1); (try clear ek2); (try clear ek3); (try clear ek4); (try clear ek5); (try clear ek6); (try clear hu3 hu4 hcu); (try clear hnp); (try clear hbd); (try clear hsb hos hl0 hl1 hl2 hr1); (try clear hxb); (try clear hln2); (try clear hu1 hu2 hN); (try clear hg hS0 hsz); (try clear hNp hNq hNr hNs); (try clear hNp)
                  refine wp_gen (fun W => Blk W s0 49 #[.slice A gs.length c, .int .i64 lm, .int .i64 most, .int .i64 bound, .bool true] ∧ Blk W r0 49 #[.slice none 0 0, .int .i64 0, .int .i64 0, .int .i64 0, .bool false] ∧ Only (fun k => k = s0 ∨ k = r0) w6 W) (d7_flag (HD6.out)) ?_
                  rintro WF ⟨hbf1, hbf2, hof⟩
                  clear pp0 pp1 pp2 pp3 pp4 pz4
                  obtain ⟨pp0, pp1, pp2, pp3, pp4⟩ := hbf1.c5
                  obtain ⟨oo0, oo1, oo2, oo3, oo4⟩ := hbf2.c5
                  have oz0 := hbf2.frozen 0
                  have oz1 := hbf2.frozen 1
                  have oz2 := hbf2.frozen 2
                  have oz3 := hbf2.frozen 3
                  have oz4 := hbf2.frozen 4
                  have HBF2 := Lib.hid hbf2
                  have HOF := Lib.hid hof
                  clear hbf1 hbf2 hof
                  go_wp2
                  refine wx_gen (fun W => Blk W r0 49 #[.slice A gs.length c, .int .i64 lm, .int .i64 most, .int .i64 bound, .bool true] ∧ Only (fun k => k = s0 ∨ k = r0) w6 W) (d7_out HBF2.out HOF.out) ?_
                  rintro W7 ⟨hb7, ho7⟩
                  obtain ⟨g0, g1, g2, g3, g4⟩ := hb7.c5
                  rw [← HQB.out]
                  exact bodyPost_ret (v := .tuple #[.agg #[.slice A gs.length c, .int .i64 lm, .int .i64 most, .int .i64 bound, .bool true], .slice none 0 0, .int .i64 (e4 : Int)]) (by simp [results, Try.results22, go_sem, g0, g1, g2, g3, g4]) rfl (HDIE.out e4 gs lm A c _ out s0 r0 w6 W7 he4 HFE.out HD6.out ho7)
              · as_aux_lemma =>
                rw [show ((1 : Nat) : Int) = 1 from rfl]
                have HIR2 := HIR.out
                have HT := Lib.hid (fun W => rf4_decode W l' 4096 (d7_ten hl' hln2))
                have hus := fun h0 => (litR_used l' 4096 h0).2
                unfold Lit4P at HT
                obtain ⟨R4, hR4⟩ : ∃ R4, litR l' 4096 = R4 := ⟨_, rfl⟩
                rw [hR4] at HT hus
                obtain ⟨X, u4, e4⟩ := R4
                simp only at HT hus
                have hsz4 : (strB l').size = l'.length := strB_size l'
                have hcu4 : (strB l').extract u4 l'.length = strB (l'.drop u4) := str_drop7 _ _
                by_cases he4 : e4 = 0
                · subst he4
                  have hul := hus rfl
                  have hI : inR 3 0 (2 - 1 - 1) (1 + 1) (F1, strB X) (l'.drop u4) = IR := by
                    rw [← HIR2]
                    have h9 := inR_read (kd := 3) (n := 0) (m := 2 - 1 - 1) (k := 1) (f := (F1, F2)) (l := l') (by simp) (by rw [hR4]; simp)
                    rw [hR4] at h9
                    exact h9.symm
                  have HI := Lib.hid hI
                  have HL4 : Hid ((l'.drop u4).length ≤ l2.length) := Lib.hid (drop_le7 u4 hl')
                  have hu40 : (0 : Int) ≤ (u4 : Int) := Int.natCast_nonneg u4
                  have hu41 : (u4 : Int) ≤ (l'.length : Int) := Int.ofNat_le.2 hul
                  obtain ⟨q0, q1⟩ := HBF.out.c2
                  have qz := HBF.out.frozen 1
                  rw [show ((0 : Nat) : Int) = 0 from rfl] at HT
                  clear HIR2 hus hR4 hul hI
                  generalize l'.drop u4 = l3 at *
                  generalize strB l' = S' at *
                  generalize strB X = SX at *
                  generalize hll : l'.length = n' at *
                  go_wp2_with fail
                  with_reducible refine (HT.out _).mono ?_
                  rintro e5 w6 ⟨rfl, hf6⟩
                  have HB6 := Lib.hid (HBF.out.fresh hf6)
                  have HF6 := Lib.hid (HFW.out.trans hf6)
                  clear q0 q1 qz hf6
                  obtain ⟨q0, q1⟩ := HB6.out.c2
                  have qz := HB6.out.frozen 1
                  go_wp2
                  exact ⟨⟨1 + 1, (F1, SX), l3, by decide, by go_num, rfl, HL4.out, HI.out, by simpa using HB6.out.set 1 (.string SX), HF6.out.step _ _ HG0.out⟩, by simp [intOf]⟩
                · have hI : IR = (e4, (F1, F2), l') := by
                    rw [← HIR2]
                    have h9 := inR_err (kd := 3) (n := 0) (m := 2 - 1 - 1) (k := 1) (f := (F1, F2)) (l := l') (by simp) (by rw [hR4]; exact he4)
                    rw [hR4] at h9
                    exact h9
                  have HFE : Hid (FR = (e4, [], gs, lm)) := Lib.hid (HLE.out e4 he4 (by rw [hI]))
                  obtain ⟨h0d, h0i⟩ := nz4 he4
                  clear HIR2 hus hR4 hI hcu4
                  generalize strB l' = S' at *
                  generalize strB X = SX at *
                  go_wp2_with fail
                  with_reducible refine (HT.out _).mono ?_
                  rintro e5 w6 ⟨rfl, hf6⟩
                  have HD6 := Lib.hid (HDW.out.fresh hf6)
                  clear hf6
                  obtain ⟨pp0, pp1, pp2, pp3, pp4⟩ := (HD6.out).st.c5
                  have pz4 := (HD6.out).st.frozen 4
                  go_upto_region 32 with fail
                  (try clear hwa hwb hwc hwa' hwb' hwc' hbig)
                  (try clear hwa hwb hwc hwa' hwb' hwc')
                  (try clear ek0); (try clear ek1); (try clear ek2); (try clear ek3); (try clear ek4); (try clear ek5); (try clear ek6); (try clear hu3 hu4 hcu); (try clear hnp); (try clear hbd); (try clear hsb hos hl0 hl1 hl2 hr1); (try clear hxb); (try clear hln2); (try clear hu1 hu2 hN); (try clear hg hS0 hsz); (try clear hNp hNq hNr hNs); (try clear hNp)
                  refine wp_gen (fun W => Blk W s0 49 #[.slice A gs.length c, .int .i64 lm, .int .i64 most, .int .i64 bound, .bool true] ∧ Blk W r0 49 #[.slice none 0 0, .int .i64 0, .int .i64 0, .int .i64 0, .bool false] ∧ Only (fun k => k = s0 ∨ k = r0) w6 W) (d7_flag (HD6.out)) ?_
                  rintro WF ⟨hbf1, hbf2, hof⟩
                  clear pp0 pp1 pp2 pp3 pp4 pz4
                  obtain ⟨pp0, pp1, pp2, pp3, pp4⟩ := hbf1.c5
                  obtain ⟨oo0, oo1, oo2, oo3, oo4⟩ := hbf2.c5
                  have oz0 := hbf2.frozen 0
                  have oz1 := hbf2.frozen 1
                  have oz2 := hbf2.frozen 2
                  have oz3 := hbf2.frozen 3
                  have oz4 := hbf2.frozen 4
                  have HBF2 := Lib.hid hbf2
                  have HOF := Lib.hid hof
                  clear hbf1 hbf2 hof
                  go_wp2
                  refine wx_gen (fun W => Blk W r0 49 #[.slice A gs.length c, .int .i64 lm, .int .i64 most, .int .i64 bound, .bool true] ∧ Only (fun k => k = s0 ∨ k = r0) w6 W) (d7_out HBF2.out HOF.out) ?_
                  rintro W7 ⟨hb7, ho7⟩
                  obtain ⟨g0, g1, g2, g3, g4⟩ := hb7.c5
                  rw [← HQB.out]
                  exact bodyPost_ret (v := .tuple #[.agg #[.slice A gs.length c, .int .i64 lm, .int .i64 most, .int .i64 bound, .bool true], .slice none 0 0, .int .i64 (e4 : Int)]) (by simp [results, Try.results22, go_sem, g0, g1, g2, g3, g4]) rfl (HDIE.out e4 gs lm A c _ out s0 r0 w6 W7 he4 HFE.out HD6.out ho7)
              · have h2 := HIR.out
                have h3 : IR = (0, (F1, F2), l') := by rw [← h2]; rfl
                have h4 := HINL.out
                rw [h3] at h4
                obtain ⟨h5, h6⟩ := h4
                obtain ⟨h7, h8⟩ := h6 h5.symm
                simp only at h5 h7 h8
                have hz1 := lineR_fz gs 3 0 l2 (d7_gs hl1 hl2 HMX.out).1
                rw [← h7] at hz1
                have HZF := Lib.hid hz1
                have h9 := HFL.out
                rw [if_neg (by rw [← h5]; simp), ← h7, ← h8] at h9
                have hG : fsL gs lm 3 0 l2 = gs := by unfold fsL; rw [if_neg (fun hh => absurd hh.1 (by decide))]
                have HTG0 := Lib.hid (tz_fsL gs lm 3 0 l2 hl0 hl2)
                obtain ⟨G, hGG⟩ : ∃ G, fsL gs lm 3 0 l2 = G := ⟨_, rfl⟩
                rw [hGG] at hG h9 HTG0
                have HGE := Lib.hid hG
                have HTG := HTG0
                obtain ⟨l3, hl3⟩ : ∃ l3, l' = l3 := ⟨_, rfl⟩
                subst hl3
                have HFN : Hid (FR = if bound < (sz : Int) + (fz (F1, F2) : Int) then (22, [], G, lm) else blockR most bound r.length G lm (sz + fz (F1, F2)) (out ++ [((F1, F2), true)]) l') := Lib.hid h9
                have HL3 := Lib.hid hl'
                rw [show ((2 : Nat) : Int) = 2 from rfl]
                clear h2 h3 h5 h6 h7 h8 h9 hz1 hG hGG HTG0 HIR HINL HFL HLE
                have HGA : Hid (G = gs) := Lib.hid HGE.out
                obtain rfl := HGA.out
                obtain ⟨A10, c10, w10, hap, hO10, hF10⟩ := lnr_push (w := wr) (base := r0 + 1) HDW.out.own HDW.out.room ((F1, F2), true) (d7_push (z := 0) hos hsb HB0.out.2) wr.heap.size rfl
                rw [show nvI true = 1 from rfl] at hap
                simp only at hap
                have HB10 : Hid (Blk w10 f0 77 #[.string F1, .string F2]) := Lib.hid (HBF.out.only hF10 (fun e => by
                  obtain ⟨cs', hb'⟩ := ownBlkD HDW.out.own e
                  exact HBF.out.ne hb' (by decide) rfl))
                have HD10 : Hid (D7 w w10 s0 r0 A c G lm most bound (.slice A10 (out.length + 1) c10) (out ++ [((F1, F2), true)])) := Lib.hid (HDW.out.push hO10 hF10)
                obtain ⟨q0, q1⟩ := HBF.out.c2
                clear hO10 hF10
                obtain ⟨q2, q3⟩ := HB10.out.c2
                obtain ⟨p0, p1, p2, p3, p4⟩ := HD10.out.st.c5
                obtain ⟨z, hz⟩ : ∃ z, fz (F1, F2) = z := ⟨_, rfl⟩
                have hzf := HZF.out
                rw [hz] at hzf HFN
                obtain ⟨hwa, hwb, hwc, hz32⟩ := d7_nums hz hzf hsb HB0.out
                have hwa' := (wrap_eq64 _).symm.trans hwa
                have hwb' := (wrap_eq64 _).symm.trans hwb
                have hwc' := (wrap_eq64 _).symm.trans hwc
                have HZ32 : Hid (32 ≤ z) := Lib.hid hz32
                clear hz hzf hz32
                by_cases hbig : bound < (sz : Int) + (z : Int)
                · as_aux_lemma =>
                  have HFE : Hid (FR = (22, [], G, lm)) := Lib.hid (by have := HFN.out; rw [if_pos hbig] at this; exact this)
                  go_upto_region 43 with (at_builtin; with_reducible refine wp_app rfl (.tmp 134) (.tmp 141) _ rfl hap rfl rfl rfl ?_)
                  clear p0 p1 p2 p3 p4 q0 q1 q2 q3 hap
                  obtain ⟨pp0, pp1, pp2, pp3, pp4⟩ := (HD10.out).st.c5
                  have pz4 := (HD10.out).st.frozen 4
                  go_upto_region 44 with fail
                  (try clear hwa hwb hwc hwa' hwb' hwc' hbig)
                  (try clear hwa hwb hwc hwa' hwb' hwc')
                  (try clear ek0); (try clear ek1); (try clear ek2); (try clear ek3); (try clear ek4); (try clear ek5); (try clear ek6); (try clear hu3 hu4 hcu); (try clear hnp); (try clear hbd); (try clear hsb hos hl0 hl1 hl2 hr1); (try clear hxb); (try clear hln2); (try clear hu1 hu2 hN); (try clear hg hS0 hsz); (try clear hNp hNq hNr hNs); (try clear hNp)
                  refine wp_gen (fun W => Blk W s0 49 #[.slice A G.length c, .int .i64 lm, .int .i64 most, .int .i64 bound, .bool true] ∧ Blk W r0 49 #[.slice none 0 0, .int .i64 0, .int .i64 0, .int .i64 0, .bool false] ∧ Only (fun k => k = s0 ∨ k = r0) w10 W) (d7_flag (HD10.out)) ?_
                  rintro WF ⟨hbf1, hbf2, hof⟩
                  clear pp0 pp1 pp2 pp3 pp4 pz4
                  obtain ⟨pp0, pp1, pp2, pp3, pp4⟩ := hbf1.c5
                  obtain ⟨oo0, oo1, oo2, oo3, oo4⟩ := hbf2.c5
                  have oz0 := hbf2.frozen 0
                  have oz1 := hbf2.frozen 1
                  have oz2 := hbf2.frozen 2
                  have oz3 := hbf2.frozen 3
                  have oz4 := hbf2.frozen 4
                  have HBF2 := Lib.hid hbf2
                  have HOF := Lib.hid hof
                  clear hbf1 hbf2 hof
                  go_wp2
                  refine wx_gen (fun W => Blk W r0 49 #[.slice A G.length c, .int .i64 lm, .int .i64 most, .int .i64 bound, .bool true] ∧ Only (fun k => k = s0 ∨ k = r0) w10 W) (d7_out HBF2.out HOF.out) ?_
                  rintro W7 ⟨hb7, ho7⟩
                  obtain ⟨g0, g1, g2, g3, g4⟩ := hb7.c5
                  rw [← HQB.out]
                  exact bodyPost_ret (v := .tuple #[.agg #[.slice A G.length c, .int .i64 lm, .int .i64 most, .int .i64 bound, .bool true], .slice none 0 0, .int .i64 22]) (by simp [results, Try.results22, go_sem, g0, g1, g2, g3, g4]) rfl (HDIE.out 22 G lm A c _ _ s0 r0 w10 W7 (by decide) HFE.out HD10.out ho7)
                · as_aux_lemma =>
                  have HGO : Hid (FR = blockR most bound l'.length G lm (sz + z) (out ++ [((F1, F2), true)]) l') := Lib.hid (by have := HFN.out; rw [if_neg hbig] at this; exact d7_fuel this (Nat.le_trans HL3.out HRL.out))
                  have hzz := bk_size hos HZ32.out hbig
                  have HZG : Hid ((tz G : Int) ≤ lm) := Lib.hid HTG.out
                  have HLO : Hid ((out ++ [((F1, F2), true)]).length = out.length + 1) := Lib.hid (by simp)
                  have HS3 : Hid ((strB l').size = l'.length) := Lib.hid (strB_size l')
                  go_wp2_with (at_builtin; with_reducible refine wp_app rfl (.tmp 134) (.tmp 141) _ rfl hap rfl rfl rfl ?_)
                  exact ⟨⟨l', A10, out ++ [((F1, F2), true)], c10, sz + z, G, lm, A, c, rfl, by rw [HLO.out], by rw [hzz.2.2], d7_ten HL3.out hln2, hzz.2.1, by rw [HLO.out]; exact hzz.1, hl0, hl1, HZG.out, HGO.out, by rw [HLO.out]; exact HD10.out⟩, by simp only [siz7]; rw [HS3.out, hsz]; exact d7_less HL3.out HLT.out⟩
          · obtain ⟨hNp, hNq, hNr, hNs⟩ := pos4 hN0
            cases hen : entR gs N with
            | none =>
              as_aux_lemma =>
              go_wp2_with fail
              with_reducible refine (HBI.out _).mono ?_
              rintro e5 w5 ⟨rfl, rfl⟩
              go_wp2_with fail
              with_reducible refine (HPX.out _).mono ?_
              rintro e5 w5 ⟨rfl, hf5⟩
              have HD5 := Lib.hid (HD.out.fresh hf5)
              have HF5 := Lib.hid hf5
              clear hf5
              go_upto_region 19 with fail
              refine wp_gen (fun W => Blk W w5.heap.size 77 #[.string ⟨#[]⟩, .string ⟨#[]⟩] ∧ Fresh w5 W) ⟨Blk.new _ _ _, Fresh.alloc _ _⟩ ?_
              rintro W6 ⟨hb6, hf6⟩
              have HG0 : Hid (wr.heap.size ≤ w5.heap.size) := Lib.hid HF5.out.size
              generalize w5.heap.size = f0 at *
              have HB6 := Lib.hid hb6
              have HF6 := Lib.hid (HF5.out.trans hf6)
              have HD6 := Lib.hid (HD5.out.fresh hf6)
              clear hb6 hf6 HD5 HF5
              have HFE : Hid (FR = (23, [], gs, lm)) := Lib.hid (by
                have h2 := HFL.out
                have h3 : lineR gs 3 N l2 = (23, (strB [], strB []), 0) := by
                  unfold lineR
                  first
                  | (rw [if_pos rfl, hen]; done)
                  | (rw [if_neg (by decide)]; exact fieldR_entry_no hN0 hen)
                have hG : fsL gs lm 3 N l2 = gs := by unfold fsL; rw [if_neg (by rw [h3]; simp)]
                rw [hG, h3, if_pos (by simp)] at h2
                exact h2)
              obtain ⟨p0, p1, p2, p3, p4⟩ := HD6.out.st.c5
              rw [hen] at HENT
              simp only [nofV] at HENT
              clear hen HFL
              go_wp2_with fail
              with_reducible refine (HENT.out _ HD6.out.li).mono ?_
              rintro e7 w7 ⟨rfl, hf7⟩
              have HF7 := Lib.hid (HF6.out.trans hf7)
              have HB7 := Lib.hid (HB6.out.fresh hf7)
              clear hf7 p0 p1 p2 p3 p4
              obtain ⟨q0, q1⟩ := HB7.out.c2
              have qz0 := HB7.out.frozen 0
              have qz1 := HB7.out.frozen 1
              go_upto_region 22 with fail
              refine wp_gen (fun W => Fresh wr W) (by repeat (first | with_reducible exact HF7.out | (with_reducible refine Fresh.step2 ?_ ?_; focus (exact HG0.out)))) ?_
              intro w8 hf8
              have HD8 := Lib.hid (HD.out.fresh hf8)
              clear hf8 q0 q1 qz0 qz1
              obtain ⟨pp0, pp1, pp2, pp3, pp4⟩ := (HD8.out).st.c5
              have pz4 := (HD8.out).st.frozen 4
              go_upto_region 24 with fail
              (try clear hwa hwb hwc hwa' hwb' hwc' hbig)
              (try clear hwa hwb hwc hwa' hwb' hwc')
              (try clear ek0); (try clear ek1); (try clear ek2); (try clear ek3); (try clear ek4); (try clear ek5); (try clear ek6); (try clear hu3 hu4 hcu); (try clear hnp); (try clear hbd); (try clear hsb hos hl0 hl1 hl2 hr1); (try clear hxb); (try clear hln2); (try clear hu1 hu2 hN); (try clear hg hS0 hsz); (try clear hNp hNq hNr hNs); (try clear hNp)
              refine wp_gen (fun W => Blk W s0 49 #[.slice A gs.length c, .int .i64 lm, .int .i64 most, .int .i64 bound, .bool true] ∧ Blk W r0 49 #[.slice none 0 0, .int .i64 0, .int .i64 0, .int .i64 0, .bool false] ∧ Only (fun k => k = s0 ∨ k = r0) w8 W) (d7_flag (HD8.out)) ?_
              rintro WF ⟨hbf1, hbf2, hof⟩
              clear pp0 pp1 pp2 pp3 pp4 pz4
              obtain ⟨pp0, pp1, pp2, pp3, pp4⟩ := hbf1.c5
              obtain ⟨oo0, oo1, oo2, oo3, oo4⟩ := hbf2.c5
              have oz0 := hbf2.frozen 0
              have oz1 := hbf2.frozen 1
              have oz2 := hbf2.frozen 2
              have oz3 := hbf2.frozen 3
              have oz4 := hbf2.frozen 4
              have HBF2 := Lib.hid hbf2
              have HOF := Lib.hid hof
              clear hbf1 hbf2 hof
              go_wp2
              refine wx_gen (fun W => Blk W r0 49 #[.slice A gs.length c, .int .i64 lm, .int .i64 most, .int .i64 bound, .bool true] ∧ Only (fun k => k = s0 ∨ k = r0) w8 W) (d7_out HBF2.out HOF.out) ?_
              rintro W7 ⟨hb7, ho7⟩
              obtain ⟨g0, g1, g2, g3, g4⟩ := hb7.c5
              rw [← HQB.out]
              exact bodyPost_ret (v := .tuple #[.agg #[.slice A gs.length c, .int .i64 lm, .int .i64 most, .int .i64 bound, .bool true], .slice none 0 0, .int .i64 23]) (by simp [results, Try.results22, go_sem, g0, g1, g2, g3, g4]) rfl (HDIE.out 23 gs lm A c _ out s0 r0 w8 W7 (by decide) HFE.out HD8.out ho7)
            | some fe =>
              as_aux_lemma =>
              go_wp2_with fail
              with_reducible refine (HBI.out _).mono ?_
              rintro e5 w5 ⟨rfl, rfl⟩
              go_wp2_with fail
              with_reducible refine (HPX.out _).mono ?_
              rintro e5 w5 ⟨rfl, hf5⟩
              have HD5 := Lib.hid (HD.out.fresh hf5)
              have HF5 := Lib.hid hf5
              clear hf5
              go_upto_region 19 with fail
              refine wp_gen (fun W => Blk W w5.heap.size 77 #[.string ⟨#[]⟩, .string ⟨#[]⟩] ∧ Fresh w5 W) ⟨Blk.new _ _ _, Fresh.alloc _ _⟩ ?_
              rintro W6 ⟨hb6, hf6⟩
              have HG0 : Hid (wr.heap.size ≤ w5.heap.size) := Lib.hid HF5.out.size
              generalize w5.heap.size = f0 at *
              have HB6 := Lib.hid hb6
              have HF6 := Lib.hid (HF5.out.trans hf6)
              have HD6 := Lib.hid (HD5.out.fresh hf6)
              clear hb6 hf6 HD5 HF5
              obtain ⟨E1, E2⟩ := fe
              have HEN := Lib.hid hen
              obtain ⟨p0, p1, p2, p3, p4⟩ := HD6.out.st.c5
              rw [hen] at HENT
              simp only at HENT
              clear hen
              go_wp2_with fail
              with_reducible refine (HENT.out _ HD6.out.li).mono ?_
              rintro e7 w7 ⟨rfl, hf7⟩
              have HF7 := Lib.hid (HF6.out.trans hf7)
              have HB7 := Lib.hid (HB6.out.fresh hf7)
              clear hf7 p0 p1 p2 p3 p4
              obtain ⟨q0, q1⟩ := HB7.out.c2
              have qz0 := HB7.out.frozen 0
              have qz1 := HB7.out.frozen 1
              go_upto_region 25 with fail
              refine wp_gen (fun W => Blk W f0 77 #[.string E1, .string E2] ∧ Fresh wr W) ⟨by simpa using (HB7.out.set 0 (.string E1)).set 1 (.string E2), by repeat (first | with_reducible exact HF7.out | (with_reducible refine Fresh.step2 ?_ ?_; focus (exact HG0.out)))⟩ ?_
              rintro W8 ⟨hb8, hf8⟩
              have HB8 := Lib.hid hb8
              have HF8 := Lib.hid hf8
              clear hb8 hf8 q0 q1 qz0 qz1
              have HINL := Lib.hid (inR_line gs 3 N l2 (E1, E2) (fun _ => HEN.out))
              obtain ⟨IR, hIR⟩ : ∃ IR, inR 3 N 2 0 (E1, E2) l2 = IR := ⟨_, rfl⟩
              rw [hIR] at HINL
              have HIR0 := Lib.hid hIR
              have HLE : Hid (∀ e : Nat, e ≠ 0 → IR.1 = e → FR = (e, [], gs, lm)) := Lib.hid (fun e he hI => by
                have h1 := HINL.out.1
                have h2 := HFL.out
                rw [hI] at h1
                have hG : fsL gs lm 3 N l2 = gs := by unfold fsL; rw [if_neg (fun hh => he (by rw [h1]; exact hh.2))]
                rw [← h1, hG, if_pos he] at h2
                exact h2)
              clear hIR
              go_wp2_with fail
              go_loopw [1, 15] (fun bx kx W => ∃ (k : Nat) (f : FldT) (l' : List UInt8), k ≤ 2 ∧ kx = .int .i64 (k : Int) ∧ bx = .string (strB l') ∧ l'.length ≤ l2.length ∧ inR 3 N (2 - k) k f l' = IR ∧ Blk W f0 77 #[.string f.1, .string f.2] ∧ Fresh wr W) (fun _ kx _ => 2 - (intOf kx).toNat)
              case atStart => exact ⟨0, (E1, E2), l2, by decide, rfl, rfl, Nat.le_refl _, HIR0.out, HB8.out, HF8.out⟩
              case round =>
                obtain ⟨k, ⟨F1, F2⟩, l', hk, rfl, rfl, hl', hir, hbf, hfw⟩ := hrel
                have HIR := Lib.hid hir
                have HBF := Lib.hid hbf
                have HFW := Lib.hid hfw
                have HDW := Lib.hid (HD.out.fresh hfw)
                simp only at HBF
                clear hir hbf hfw HIR0 HB8 HF8
                rcases k012 hk with rfl | rfl | rfl
                · as_aux_lemma =>
                  rw [show ((0 : Nat) : Int) = 0 from rfl]
                  have hI : inR 3 N (2 - 0 - 1) (0 + 1) (F1, F2) l' = IR := by
                    rw [← HIR.out]
                    exact (inR_skip (.inr ⟨rfl, hNq⟩)).symm
                  have HI := Lib.hid hI
                  clear hI
                  go_wp2
                  exact ⟨⟨0 + 1, (F1, F2), l', by decide, by go_num, rfl, hl', HI.out, HBF.out, HFW.out⟩, by simp [intOf]⟩
                · as_aux_lemma =>
                  rw [show ((1 : Nat) : Int) = 1 from rfl]
                  have HIR2 := HIR.out
                  have HT := Lib.hid (fun W => rf4_decode W l' 4096 (d7_ten hl' hln2))
                  have hus := fun h0 => (litR_used l' 4096 h0).2
                  unfold Lit4P at HT
                  obtain ⟨R4, hR4⟩ : ∃ R4, litR l' 4096 = R4 := ⟨_, rfl⟩
                  rw [hR4] at HT hus
                  obtain ⟨X, u4, e4⟩ := R4
                  simp only at HT hus
                  have hsz4 : (strB l').size = l'.length := strB_size l'
                  have hcu4 : (strB l').extract u4 l'.length = strB (l'.drop u4) := str_drop7 _ _
                  by_cases he4 : e4 = 0
                  · subst he4
                    have hul := hus rfl
                    have hI : inR 3 N (2 - 1 - 1) (1 + 1) (F1, strB X) (l'.drop u4) = IR := by
                      rw [← HIR2]
                      have h9 := inR_read (kd := 3) (n := N) (m := 2 - 1 - 1) (k := 1) (f := (F1, F2)) (l := l') (by simp) (by rw [hR4]; simp)
                      rw [hR4] at h9
                      exact h9.symm
                    have HI := Lib.hid hI
                    have HL4 : Hid ((l'.drop u4).length ≤ l2.length) := Lib.hid (drop_le7 u4 hl')
                    have hu40 : (0 : Int) ≤ (u4 : Int) := Int.natCast_nonneg u4
                    have hu41 : (u4 : Int) ≤ (l'.length : Int) := Int.ofNat_le.2 hul
                    obtain ⟨q0, q1⟩ := HBF.out.c2
                    have qz := HBF.out.frozen 1
                    rw [show ((0 : Nat) : Int) = 0 from rfl] at HT
                    clear HIR2 hus hR4 hul hI
                    generalize l'.drop u4 = l3 at *
                    generalize strB l' = S' at *
                    generalize strB X = SX at *
                    generalize hll : l'.length = n' at *
                    go_wp2_with fail
                    with_reducible refine (HT.out _).mono ?_
                    rintro e5 w6 ⟨rfl, hf6⟩
                    have HB6 := Lib.hid (HBF.out.fresh hf6)
                    have HF6 := Lib.hid (HFW.out.trans hf6)
                    clear q0 q1 qz hf6
                    obtain ⟨q0, q1⟩ := HB6.out.c2
                    have qz := HB6.out.frozen 1
                    go_wp2
                    exact ⟨⟨1 + 1, (F1, SX), l3, by decide, by go_num, rfl, HL4.out, HI.out, by simpa using HB6.out.set 1 (.string SX), HF6.out.step _ _ HG0.out⟩, by simp [intOf]⟩
                  · have hI : IR = (e4, (F1, F2), l') := by
                      rw [← HIR2]
                      have h9 := inR_err (kd := 3) (n := N) (m := 2 - 1 - 1) (k := 1) (f := (F1, F2)) (l := l') (by simp) (by rw [hR4]; exact he4)
                      rw [hR4] at h9
                      exact h9
                    have HFE : Hid (FR = (e4, [], gs, lm)) := Lib.hid (HLE.out e4 he4 (by rw [hI]))
                    obtain ⟨h0d, h0i⟩ := nz4 he4
                    clear HIR2 hus hR4 hI hcu4
                    generalize strB l' = S' at *
                    generalize strB X = SX at *
                    go_wp2_with fail
                    with_reducible refine (HT.out _).mono ?_
                    rintro e5 w6 ⟨rfl, hf6⟩
                    have HD6 := Lib.hid (HDW.out.fresh hf6)
                    clear hf6
                    obtain ⟨pp0, pp1, pp2, pp3, pp4⟩ := (HD6.out).st.c5
                    have pz4 := (HD6.out).st.frozen 4
                    go_upto_region 32 with fail
                    (try clear hwa hwb hwc hwa' hwb' hwc' hbig)
                    (try clear hwa hwb hwc hwa' hwb' hwc')
                    (try clear ek0); (try clear ek1); (try clear ek2); (try clear ek3); (try clear ek4); (try clear ek5); (try clear ek6); (try clear hu3 hu4 hcu); (try clear hnp); (try clear hbd); (try clear hsb hos hl0 hl1 hl2 hr1); (try clear hxb); (try clear hln2); (try clear hu1 hu2 hN); (try clear hg hS0 hsz); (try clear hNp hNq hNr hNs); (try clear hNp)
                    refine wp_gen (fun W => Blk W s0 49 #[.slice A gs.length c, .int .i64 lm, .int .i64 most, .int .i64 bound, .bool true] ∧ Blk W r0 49 #[.slice none 0 0, .int .i64 0, .int .i64 0, .int .i64 0, .bool false] ∧ Only (fun k => k = s0 ∨ k = r0) w6 W) (d7_flag (HD6.out)) ?_
                    rintro WF ⟨hbf1, hbf2, hof⟩
                    clear pp0 pp1 pp2 pp3 pp4 pz4
                    obtain ⟨pp0, pp1, pp2, pp3, pp4⟩ := hbf1.c5
                    obtain ⟨oo0, oo1, oo2, oo3, oo4⟩ := hbf2.c5
                    have oz0 := hbf2.frozen 0
                    have oz1 := hbf2.frozen 1
                    have oz2 := hbf2.frozen 2
                    have oz3 := hbf2.frozen 3
                    have oz4 := hbf2.frozen 4
                    have HBF2 := Lib.hid hbf2
                    have HOF := Lib.hid hof
                    clear hbf1 hbf2 hof
                    go_wp2
                    refine wx_gen (fun W => Blk W r0 49 #[.slice A gs.length c, .int .i64 lm, .int .i64 most, .int .i64 bound, .bool true] ∧ Only (fun k => k = s0 ∨ k = r0) w6 W) (d7_out HBF2.out HOF.out) ?_
                    rintro W7 ⟨hb7, ho7⟩
                    obtain ⟨g0, g1, g2, g3, g4⟩ := hb7.c5
                    rw [← HQB.out]
                    exact bodyPost_ret (v := .tuple #[.agg #[.slice A gs.length c, .int .i64 lm, .int .i64 most, .int .i64 bound, .bool true], .slice none 0 0, .int .i64 (e4 : Int)]) (by simp [results, Try.results22, go_sem, g0, g1, g2, g3, g4]) rfl (HDIE.out e4 gs lm A c _ out s0 r0 w6 W7 he4 HFE.out HD6.out ho7)
                · have h2 := HIR.out
                  have h3 : IR = (0, (F1, F2), l') := by rw [← h2]; rfl
                  have h4 := HINL.out
                  rw [h3] at h4
                  obtain ⟨h5, h6⟩ := h4
                  obtain ⟨h7, h8⟩ := h6 h5.symm
                  simp only at h5 h7 h8
                  have hz1 := lineR_fz gs 3 N l2 (d7_gs hl1 hl2 HMX.out).1
                  rw [← h7] at hz1
                  have HZF := Lib.hid hz1
                  have h9 := HFL.out
                  rw [if_neg (by rw [← h5]; simp), ← h7, ← h8] at h9
                  have hG : fsL gs lm 3 N l2 = gs := by unfold fsL; rw [if_neg (fun hh => absurd hh.1 (by decide))]
                  have HTG0 := Lib.hid (tz_fsL gs lm 3 N l2 hl0 hl2)
                  obtain ⟨G, hGG⟩ : ∃ G, fsL gs lm 3 N l2 = G := ⟨_, rfl⟩
                  rw [hGG] at hG h9 HTG0
                  have HGE := Lib.hid hG
                  have HTG := HTG0
                  obtain ⟨l3, hl3⟩ : ∃ l3, l' = l3 := ⟨_, rfl⟩
                  subst hl3
                  have HFN : Hid (FR = if bound < (sz : Int) + (fz (F1, F2) : Int) then (22, [], G, lm) else blockR most bound r.length G lm (sz + fz (F1, F2)) (out ++ [((F1, F2), true)]) l') := Lib.hid h9
                  have HL3 := Lib.hid hl'
                  rw [show ((2 : Nat) : Int) = 2 from rfl]
                  clear h2 h3 h5 h6 h7 h8 h9 hz1 hG hGG HTG0 HIR HINL HFL HLE
                  have HGA : Hid (G = gs) := Lib.hid HGE.out
                  obtain rfl := HGA.out
                  obtain ⟨A10, c10, w10, hap, hO10, hF10⟩ := lnr_push (w := wr) (base := r0 + 1) HDW.out.own HDW.out.room ((F1, F2), true) (d7_push (z := 0) hos hsb HB0.out.2) wr.heap.size rfl
                  rw [show nvI true = 1 from rfl] at hap
                  simp only at hap
                  have HB10 : Hid (Blk w10 f0 77 #[.string F1, .string F2]) := Lib.hid (HBF.out.only hF10 (fun e => by
                    obtain ⟨cs', hb'⟩ := ownBlkD HDW.out.own e
                    exact HBF.out.ne hb' (by decide) rfl))
                  have HD10 : Hid (D7 w w10 s0 r0 A c G lm most bound (.slice A10 (out.length + 1) c10) (out ++ [((F1, F2), true)])) := Lib.hid (HDW.out.push hO10 hF10)
                  obtain ⟨q0, q1⟩ := HBF.out.c2
                  clear hO10 hF10
                  obtain ⟨q2, q3⟩ := HB10.out.c2
                  obtain ⟨p0, p1, p2, p3, p4⟩ := HD10.out.st.c5
                  obtain ⟨z, hz⟩ : ∃ z, fz (F1, F2) = z := ⟨_, rfl⟩
                  have hzf := HZF.out
                  rw [hz] at hzf HFN
                  obtain ⟨hwa, hwb, hwc, hz32⟩ := d7_nums hz hzf hsb HB0.out
                  have hwa' := (wrap_eq64 _).symm.trans hwa
                  have hwb' := (wrap_eq64 _).symm.trans hwb
                  have hwc' := (wrap_eq64 _).symm.trans hwc
                  have HZ32 : Hid (32 ≤ z) := Lib.hid hz32
                  clear hz hzf hz32
                  by_cases hbig : bound < (sz : Int) + (z : Int)
                  · as_aux_lemma =>
                    have HFE : Hid (FR = (22, [], G, lm)) := Lib.hid (by have := HFN.out; rw [if_pos hbig] at this; exact this)
                    go_upto_region 43 with (at_builtin; with_reducible refine wp_app rfl (.tmp 134) (.tmp 141) _ rfl hap rfl rfl rfl ?_)
                    clear p0 p1 p2 p3 p4 q0 q1 q2 q3 hap
                    obtain ⟨pp0, pp1, pp2, pp3, pp4⟩ := (HD10.out).st.c5
                    have pz4 := (HD10.out).st.frozen 4
                    go_upto_region 44 with fail
                    (try clear hwa hwb hwc hwa' hwb' hwc' hbig)
                    (try clear hwa hwb hwc hwa' hwb' hwc')
                    (try clear ek0); (try clear ek1); (try clear ek2); (try clear ek3); (try clear ek4); (try clear ek5); (try clear ek6); (try clear hu3 hu4 hcu); (try clear hnp); (try clear hbd); (try clear hsb hos hl0 hl1 hl2 hr1); (try clear hxb); (try clear hln2); (try clear hu1 hu2 hN); (try clear hg hS0 hsz); (try clear hNp hNq hNr hNs); (try clear hNp)
                    refine wp_gen (fun W => Blk W s0 49 #[.slice A G.length c, .int .i64 lm, .int .i64 most, .int .i64 bound, .bool true] ∧ Blk W r0 49 #[.slice none 0 0, .int .i64 0, .int .i64 0, .int .i64 0, .bool false] ∧ Only (fun k => k = s0 ∨ k = r0) w10 W) (d7_flag (HD10.out)) ?_
                    rintro WF ⟨hbf1, hbf2, hof⟩
                    clear pp0 pp1 pp2 pp3 pp4 pz4
                    obtain ⟨pp0, pp1, pp2, pp3, pp4⟩ := hbf1.c5
                    obtain ⟨oo0, oo1, oo2, oo3, oo4⟩ := hbf2.c5
                    have oz0 := hbf2.frozen 0
                    have oz1 := hbf2.frozen 1
                    have oz2 := hbf2.frozen 2
                    have oz3 := hbf2.frozen 3
                    have oz4 := hbf2.frozen 4
                    have HBF2 := Lib.hid hbf2
                    have HOF := Lib.hid hof
                    clear hbf1 hbf2 hof
                    go_wp2
                    refine wx_gen (fun W => Blk W r0 49 #[.slice A G.length c, .int .i64 lm, .int .i64 most, .int .i64 bound, .bool true] ∧ Only (fun k => k = s0 ∨ k = r0) w10 W) (d7_out HBF2.out HOF.out) ?_
                    rintro W7 ⟨hb7, ho7⟩
                    obtain ⟨g0, g1, g2, g3, g4⟩ := hb7.c5
                    rw [← HQB.out]
                    exact bodyPost_ret (v := .tuple #[.agg #[.slice A G.length c, .int .i64 lm, .int .i64 most, .int .i64 bound, .bool true], .slice none 0 0, .int .i64 22]) (by simp [results, Try.results22, go_sem, g0, g1, g2, g3, g4]) rfl (HDIE.out 22 G lm A c _ _ s0 r0 w10 W7 (by decide) HFE.out HD10.out ho7)
                  · as_aux_lemma =>
                    have HGO : Hid (FR = blockR most bound l'.length G lm (sz + z) (out ++ [((F1, F2), true)]) l') := Lib.hid (by have := HFN.out; rw [if_neg hbig] at this; exact d7_fuel this (Nat.le_trans HL3.out HRL.out))
                    have hzz := bk_size hos HZ32.out hbig
                    have HZG : Hid ((tz G : Int) ≤ lm) := Lib.hid HTG.out
                    have HLO : Hid ((out ++ [((F1, F2), true)]).length = out.length + 1) := Lib.hid (by simp)
                    have HS3 : Hid ((strB l').size = l'.length) := Lib.hid (strB_size l')
                    go_wp2_with (at_builtin; with_reducible refine wp_app rfl (.tmp 134) (.tmp 141) _ rfl hap rfl rfl rfl ?_)
                    exact ⟨⟨l', A10, out ++ [((F1, F2), true)], c10, sz + z, G, lm, A, c, rfl, by rw [HLO.out], by rw [hzz.2.2], d7_ten HL3.out hln2, hzz.2.1, by rw [HLO.out]; exact hzz.1, hl0, hl1, HZG.out, HGO.out, by rw [HLO.out]; exact HD10.out⟩, by simp only [siz7]; rw [HS3.out, hsz]; exact d7_less HL3.out HLT.out⟩
        · rw [List.length_cons, blockR_line hd 4 hkd (by decide) l2 hl2e] at hf2q
          have hnvv : decide ((4 : Nat) = 3) = false := rfl
          rw [hnvv] at hf2q
          have HFL := Lib.hid hf2q
          have HENT := Lib.hid (fun W (hli : Li7 W A c gs) => rf7_entry A c gs lm most bound false N W hli.rows (d7_gs hl1 hl2 HMX.out).2.1 hN)
          unfold En7P at HENT
          clear hf2q hd hkd hl2e hnvv
          generalize strB (x :: r) = S at *
          generalize bitsR x.toNat = bt at *
          generalize hxn : x.toNat = xn at *
          obtain ⟨ek0, ek1, ek2, ek3⟩ := kf4 hx1
          clear hx1
          by_cases hN0 : N = 0
          · subst hN0
            as_aux_lemma =>
            have hNp : ¬ (0 : Int) < 0 := by decide
            rw [show ((0 : Nat) : Int) = 0 from rfl] at HPX
            go_wp2_with fail
            with_reducible refine (HBI.out _).mono ?_
            rintro e5 w5 ⟨rfl, rfl⟩
            go_wp2_with fail
            with_reducible refine (HPX.out _).mono ?_
            rintro e5 w5 ⟨rfl, hf5⟩
            have HD5 := Lib.hid (HD.out.fresh hf5)
            have HF5 := Lib.hid hf5
            clear hf5
            go_upto_region 19 with fail
            refine wp_gen (fun W => Blk W w5.heap.size 77 #[.string ⟨#[]⟩, .string ⟨#[]⟩] ∧ Fresh w5 W) ⟨Blk.new _ _ _, Fresh.alloc _ _⟩ ?_
            rintro W6 ⟨hb6, hf6⟩
            have HG0 : Hid (wr.heap.size ≤ w5.heap.size) := Lib.hid HF5.out.size
            generalize w5.heap.size = f0 at *
            have HB6 := Lib.hid hb6
            have HF6 := Lib.hid (HF5.out.trans hf6)
            have HD6 := Lib.hid (HD5.out.fresh hf6)
            clear hb6 hf6 HD5 HF5
            obtain ⟨q0, q1⟩ := HB6.out.c2
            go_upto_region 25 with fail
            obtain ⟨E1, hE1⟩ : ∃ E, (⟨#[]⟩ : ByteArray) = E := ⟨_, rfl⟩
            have HE1 := Lib.hid hE1
            rw [hE1] at HB6
            obtain ⟨E2, hE2⟩ : ∃ E, E1 = E := ⟨_, rfl⟩
            have HEN : Hid (∀ p, p = entR gs 0 → True) := Lib.hid (fun _ _ => trivial)
            refine wp_gen (fun W => Blk W f0 77 #[.string E1, .string E2] ∧ Fresh wr W) ⟨by rw [← hE2]; exact HB6.out, HF6.out⟩ ?_
            rintro W8 ⟨hb8, hf8⟩
            have HB8 := Lib.hid hb8
            have HF8 := Lib.hid hf8
            clear hb8 hf8 q0 q1 hE1 hE2
            have HINL := Lib.hid (inR_line gs 4 0 l2 (E1, E2) (fun hh => by rcases hh with hh | hh; (exact absurd hh (by decide)); exact absurd hh (by decide)))
            obtain ⟨IR, hIR⟩ : ∃ IR, inR 4 0 2 0 (E1, E2) l2 = IR := ⟨_, rfl⟩
            rw [hIR] at HINL
            have HIR0 := Lib.hid hIR
            have HLE : Hid (∀ e : Nat, e ≠ 0 → IR.1 = e → FR = (e, [], gs, lm)) := Lib.hid (fun e he hI => by
              have h1 := HINL.out.1
              have h2 := HFL.out
              rw [hI] at h1
              have hG : fsL gs lm 4 0 l2 = gs := by unfold fsL; rw [if_neg (fun hh => he (by rw [h1]; exact hh.2))]
              rw [← h1, hG, if_pos he] at h2
              exact h2)
            clear hIR
            go_wp2_with fail
            go_loopw [1, 15] (fun bx kx W => ∃ (k : Nat) (f : FldT) (l' : List UInt8), k ≤ 2 ∧ kx = .int .i64 (k : Int) ∧ bx = .string (strB l') ∧ l'.length ≤ l2.length ∧ inR 4 0 (2 - k) k f l' = IR ∧ Blk W f0 77 #[.string f.1, .string f.2] ∧ Fresh wr W) (fun _ kx _ => 2 - (intOf kx).toNat)
            case atStart => exact ⟨0, (E1, E2), l2, by decide, rfl, rfl, Nat.le_refl _, HIR0.out, HB8.out, HF8.out⟩
            case round =>
              obtain ⟨k, ⟨F1, F2⟩, l', hk, rfl, rfl, hl', hir, hbf, hfw⟩ := hrel
              have HIR := Lib.hid hir
              have HBF := Lib.hid hbf
              have HFW := Lib.hid hfw
              have HDW := Lib.hid (HD.out.fresh hfw)
              simp only at HBF
              clear hir hbf hfw HIR0 HB8 HF8
              rcases k012 hk with rfl | rfl | rfl
              · as_aux_lemma =>
                rw [show ((0 : Nat) : Int) = 0 from rfl]
                have HIR2 := HIR.out
                have HT := Lib.hid (fun W => rf4_decode W l' 4096 (d7_ten hl' hln2))
                have hus := fun h0 => (litR_used l' 4096 h0).2
                unfold Lit4P at HT
                obtain ⟨R4, hR4⟩ : ∃ R4, litR l' 4096 = R4 := ⟨_, rfl⟩
                rw [hR4] at HT hus
                obtain ⟨X, u4, e4⟩ := R4
                simp only at HT hus
                have hsz4 : (strB l').size = l'.length := strB_size l'
                have hcu4 : (strB l').extract u4 l'.length = strB (l'.drop u4) := str_drop7 _ _
                by_cases he4 : e4 = 0
                · subst he4
                  have hul := hus rfl
                  have hI : inR 4 0 (2 - 0 - 1) (0 + 1) (strB X, F2) (l'.drop u4) = IR := by
                    rw [← HIR2]
                    have h9 := inR_read (kd := 4) (n := 0) (m := 2 - 0 - 1) (k := 0) (f := (F1, F2)) (l := l') (by simp) (by rw [hR4]; simp)
                    rw [hR4] at h9
                    exact h9.symm
                  have HI := Lib.hid hI
                  have HL4 : Hid ((l'.drop u4).length ≤ l2.length) := Lib.hid (drop_le7 u4 hl')
                  have hu40 : (0 : Int) ≤ (u4 : Int) := Int.natCast_nonneg u4
                  have hu41 : (u4 : Int) ≤ (l'.length : Int) := Int.ofNat_le.2 hul
                  obtain ⟨q0, q1⟩ := HBF.out.c2
                  have qz := HBF.out.frozen 0
                  rw [show ((0 : Nat) : Int) = 0 from rfl] at HT
                  clear HIR2 hus hR4 hul hI
                  generalize l'.drop u4 = l3 at *
                  generalize strB l' = S' at *
                  generalize strB X = SX at *
                  generalize hll : l'.length = n' at *
                  go_wp2_with fail
                  with_reducible refine (HT.out _).mono ?_
                  rintro e5 w6 ⟨rfl, hf6⟩
                  have HB6 := Lib.hid (HBF.out.fresh hf6)
                  have HF6 := Lib.hid (HFW.out.trans hf6)
                  clear q0 q1 qz hf6
                  obtain ⟨q0, q1⟩ := HB6.out.c2
                  have qz := HB6.out.frozen 0
                  go_wp2
                  exact ⟨⟨0 + 1, (SX, F2), l3, by decide, by go_num, rfl, HL4.out, HI.out, by simpa using HB6.out.set 0 (.string SX), HF6.out.step _ _ HG0.out⟩, by simp [intOf]⟩
                · have hI : IR = (e4, (F1, F2), l') := by
                    rw [← HIR2]
                    have h9 := inR_err (kd := 4) (n := 0) (m := 2 - 0 - 1) (k := 0) (f := (F1, F2)) (l := l') (by simp) (by rw [hR4]; exact he4)
                    rw [hR4] at h9
                    exact h9
                  have HFE : Hid (FR = (e4, [], gs, lm)) := Lib.hid (HLE.out e4 he4 (by rw [hI]))
                  obtain ⟨h0d, h0i⟩ := nz4 he4
                  clear HIR2 hus hR4 hI hcu4
                  generalize strB l' = S' at *
                  generalize strB X = SX at *
                  go_wp2_with fail
                  with_reducible refine (HT.out _).mono ?_
                  rintro e5 w6 ⟨rfl, hf6⟩
                  have HD6 := Lib.hid (HDW.out.fresh hf6)
                  clear hf6
                  obtain ⟨pp0, pp1, pp2, pp3, pp4⟩ := (HD6.out).st.c5
                  have pz4 := (HD6.out).st.frozen 4
                  go_upto_region 32 with fail
                  (try clear hwa hwb hwc hwa' hwb' hwc' hbig)
                  (try clear hwa hwb hwc hwa' hwb' hwc')
                  (try clear ek0); (try clear ek1); (try clear ek2); (try clear ek3); (try clear ek4); (try clear ek5); (try clear ek6); (try clear hu3 hu4 hcu); (try clear hnp); (try clear hbd); (try clear hsb hos hl0 hl1 hl2 hr1); (try clear hxb); (try clear hln2); (try clear hu1 hu2 hN); (try clear hg hS0 hsz); (try clear hNp hNq hNr hNs); (try clear hNp)
                  refine wp_gen (fun W => Blk W s0 49 #[.slice A gs.length c, .int .i64 lm, .int .i64 most, .int .i64 bound, .bool true] ∧ Blk W r0 49 #[.slice none 0 0, .int .i64 0, .int .i64 0, .int .i64 0, .bool false] ∧ Only (fun k => k = s0 ∨ k = r0) w6 W) (d7_flag (HD6.out)) ?_
                  rintro WF ⟨hbf1, hbf2, hof⟩
                  clear pp0 pp1 pp2 pp3 pp4 pz4
                  obtain ⟨pp0, pp1, pp2, pp3, pp4⟩ := hbf1.c5
                  obtain ⟨oo0, oo1, oo2, oo3, oo4⟩ := hbf2.c5
                  have oz0 := hbf2.frozen 0
                  have oz1 := hbf2.frozen 1
                  have oz2 := hbf2.frozen 2
                  have oz3 := hbf2.frozen 3
                  have oz4 := hbf2.frozen 4
                  have HBF2 := Lib.hid hbf2
                  have HOF := Lib.hid hof
                  clear hbf1 hbf2 hof
                  go_wp2
                  refine wx_gen (fun W => Blk W r0 49 #[.slice A gs.length c, .int .i64 lm, .int .i64 most, .int .i64 bound, .bool true] ∧ Only (fun k => k = s0 ∨ k = r0) w6 W) (d7_out HBF2.out HOF.out) ?_
                  rintro W7 ⟨hb7, ho7⟩
                  obtain ⟨g0, g1, g2, g3, g4⟩ := hb7.c5
                  rw [← HQB.out]
                  exact bodyPost_ret (v := .tuple #[.agg #[.slice A gs.length c, .int .i64 lm, .int .i64 most, .int .i64 bound, .bool true], .slice none 0 0, .int .i64 (e4 : Int)]) (by simp [results, Try.results22, go_sem, g0, g1, g2, g3, g4]) rfl (HDIE.out e4 gs lm A c _ out s0 r0 w6 W7 he4 HFE.out HD6.out ho7)
              · as_aux_lemma =>
                rw [show ((1 : Nat) : Int) = 1 from rfl]
                have HIR2 := HIR.out
                have HT := Lib.hid (fun W => rf4_decode W l' 4096 (d7_ten hl' hln2))
                have hus := fun h0 => (litR_used l' 4096 h0).2
                unfold Lit4P at HT
                obtain ⟨R4, hR4⟩ : ∃ R4, litR l' 4096 = R4 := ⟨_, rfl⟩
                rw [hR4] at HT hus
                obtain ⟨X, u4, e4⟩ := R4
                simp only at HT hus
                have hsz4 : (strB l').size = l'.length := strB_size l'
                have hcu4 : (strB l').extract u4 l'.length = strB (l'.drop u4) := str_drop7 _ _
                by_cases he4 : e4 = 0
                · subst he4
                  have hul := hus rfl
                  have hI : inR 4 0 (2 - 1 - 1) (1 + 1) (F1, strB X) (l'.drop u4) = IR := by
                    rw [← HIR2]
                    have h9 := inR_read (kd := 4) (n := 0) (m := 2 - 1 - 1) (k := 1) (f := (F1, F2)) (l := l') (by simp) (by rw [hR4]; simp)
                    rw [hR4] at h9
                    exact h9.symm
                  have HI := Lib.hid hI
                  have HL4 : Hid ((l'.drop u4).length ≤ l2.length) := Lib.hid (drop_le7 u4 hl')
                  have hu40 : (0 : Int) ≤ (u4 : Int) := Int.natCast_nonneg u4
                  have hu41 : (u4 : Int) ≤ (l'.length : Int) := Int.ofNat_le.2 hul
                  obtain ⟨q0, q1⟩ := HBF.out.c2
                  have qz := HBF.out.frozen 1
                  rw [show ((0 : Nat) : Int) = 0 from rfl] at HT
                  clear HIR2 hus hR4 hul hI
                  generalize l'.drop u4 = l3 at *
                  generalize strB l' = S' at *
                  generalize strB X = SX at *
                  generalize hll : l'.length = n' at *
                  go_wp2_with fail
                  with_reducible refine (HT.out _).mono ?_
                  rintro e5 w6 ⟨rfl, hf6⟩
                  have HB6 := Lib.hid (HBF.out.fresh hf6)
                  have HF6 := Lib.hid (HFW.out.trans hf6)
                  clear q0 q1 qz hf6
                  obtain ⟨q0, q1⟩ := HB6.out.c2
                  have qz := HB6.out.frozen 1
                  go_wp2
                  exact ⟨⟨1 + 1, (F1, SX), l3, by decide, by go_num, rfl, HL4.out, HI.out, by simpa using HB6.out.set 1 (.string SX), HF6.out.step _ _ HG0.out⟩, by simp [intOf]⟩
                · have hI : IR = (e4, (F1, F2), l') := by
                    rw [← HIR2]
                    have h9 := inR_err (kd := 4) (n := 0) (m := 2 - 1 - 1) (k := 1) (f := (F1, F2)) (l := l') (by simp) (by rw [hR4]; exact he4)
                    rw [hR4] at h9
                    exact h9
                  have HFE : Hid (FR = (e4, [], gs, lm)) := Lib.hid (HLE.out e4 he4 (by rw [hI]))
                  obtain ⟨h0d, h0i⟩ := nz4 he4
                  clear HIR2 hus hR4 hI hcu4
                  generalize strB l' = S' at *
                  generalize strB X = SX at *
                  go_wp2_with fail
                  with_reducible refine (HT.out _).mono ?_
                  rintro e5 w6 ⟨rfl, hf6⟩
                  have HD6 := Lib.hid (HDW.out.fresh hf6)
                  clear hf6
                  obtain ⟨pp0, pp1, pp2, pp3, pp4⟩ := (HD6.out).st.c5
                  have pz4 := (HD6.out).st.frozen 4
                  go_upto_region 32 with fail
                  (try clear hwa hwb hwc hwa' hwb' hwc' hbig)
                  (try clear hwa hwb hwc hwa' hwb' hwc')
                  (try clear ek0); (try clear ek1); (try clear ek2); (try clear ek3); (try clear ek4); (try clear ek5); (try clear ek6); (try clear hu3 hu4 hcu); (try clear hnp); (try clear hbd); (try clear hsb hos hl0 hl1 hl2 hr1); (try clear hxb); (try clear hln2); (try clear hu1 hu2 hN); (try clear hg hS0 hsz); (try clear hNp hNq hNr hNs); (try clear hNp)
                  refine wp_gen (fun W => Blk W s0 49 #[.slice A gs.length c, .int .i64 lm, .int .i64 most, .int .i64 bound, .bool true] ∧ Blk W r0 49 #[.slice none 0 0, .int .i64 0, .int .i64 0, .int .i64 0, .bool false] ∧ Only (fun k => k = s0 ∨ k = r0) w6 W) (d7_flag (HD6.out)) ?_
                  rintro WF ⟨hbf1, hbf2, hof⟩
                  clear pp0 pp1 pp2 pp3 pp4 pz4
                  obtain ⟨pp0, pp1, pp2, pp3, pp4⟩ := hbf1.c5
                  obtain ⟨oo0, oo1, oo2, oo3, oo4⟩ := hbf2.c5
                  have oz0 := hbf2.frozen 0
                  have oz1 := hbf2.frozen 1
                  have oz2 := hbf2.frozen 2
                  have oz3 := hbf2.frozen 3
                  have oz4 := hbf2.frozen 4
                  have HBF2 := Lib.hid hbf2
                  have HOF := Lib.hid hof
                  clear hbf1 hbf2 hof
                  go_wp2
                  refine wx_gen (fun W => Blk W r0 49 #[.slice A gs.length c, .int .i64 lm, .int .i64 most, .int .i64 bound, .bool true] ∧ Only (fun k => k = s0 ∨ k = r0) w6 W) (d7_out HBF2.out HOF.out) ?_
                  rintro W7 ⟨hb7, ho7⟩
                  obtain ⟨g0, g1, g2, g3, g4⟩ := hb7.c5
                  rw [← HQB.out]
                  exact bodyPost_ret (v := .tuple #[.agg #[.slice A gs.length c, .int .i64 lm, .int .i64 most, .int .i64 bound, .bool true], .slice none 0 0, .int .i64 (e4 : Int)]) (by simp [results, Try.results22, go_sem, g0, g1, g2, g3, g4]) rfl (HDIE.out e4 gs lm A c _ out s0 r0 w6 W7 he4 HFE.out HD6.out ho7)
              · have h2 := HIR.out
                have h3 : IR = (0, (F1, F2), l') := by rw [← h2]; rfl
                have h4 := HINL.out
                rw [h3] at h4
                obtain ⟨h5, h6⟩ := h4
                obtain ⟨h7, h8⟩ := h6 h5.symm
                simp only at h5 h7 h8
                have hz1 := lineR_fz gs 4 0 l2 (d7_gs hl1 hl2 HMX.out).1
                rw [← h7] at hz1
                have HZF := Lib.hid hz1
                have h9 := HFL.out
                rw [if_neg (by rw [← h5]; simp), ← h7, ← h8] at h9
                have hG : fsL gs lm 4 0 l2 = gs := by unfold fsL; rw [if_neg (fun hh => absurd hh.1 (by decide))]
                have HTG0 := Lib.hid (tz_fsL gs lm 4 0 l2 hl0 hl2)
                obtain ⟨G, hGG⟩ : ∃ G, fsL gs lm 4 0 l2 = G := ⟨_, rfl⟩
                rw [hGG] at hG h9 HTG0
                have HGE := Lib.hid hG
                have HTG := HTG0
                obtain ⟨l3, hl3⟩ : ∃ l3, l' = l3 := ⟨_, rfl⟩
                subst hl3
                have HFN : Hid (FR = if bound < (sz : Int) + (fz (F1, F2) : Int) then (22, [], G, lm) else blockR most bound r.length G lm (sz + fz (F1, F2)) (out ++ [((F1, F2), false)]) l') := Lib.hid h9
                have HL3 := Lib.hid hl'
                rw [show ((2 : Nat) : Int) = 2 from rfl]
                clear h2 h3 h5 h6 h7 h8 h9 hz1 hG hGG HTG0 HIR HINL HFL HLE
                have HGA : Hid (G = gs) := Lib.hid HGE.out
                obtain rfl := HGA.out
                obtain ⟨A10, c10, w10, hap, hO10, hF10⟩ := lnr_push (w := wr) (base := r0 + 1) HDW.out.own HDW.out.room ((F1, F2), false) (d7_push (z := 0) hos hsb HB0.out.2) wr.heap.size rfl
                rw [show nvI false = 0 from rfl] at hap
                simp only at hap
                have HB10 : Hid (Blk w10 f0 77 #[.string F1, .string F2]) := Lib.hid (HBF.out.only hF10 (fun e => by
                  obtain ⟨cs', hb'⟩ := ownBlkD HDW.out.own e
                  exact HBF.out.ne hb' (by decide) rfl))
                have HD10 : Hid (D7 w w10 s0 r0 A c G lm most bound (.slice A10 (out.length + 1) c10) (out ++ [((F1, F2), false)])) := Lib.hid (HDW.out.push hO10 hF10)
                obtain ⟨q0, q1⟩ := HBF.out.c2
                clear hO10 hF10
                obtain ⟨q2, q3⟩ := HB10.out.c2
                obtain ⟨p0, p1, p2, p3, p4⟩ := HD10.out.st.c5
                obtain ⟨z, hz⟩ : ∃ z, fz (F1, F2) = z := ⟨_, rfl⟩
                have hzf := HZF.out
                rw [hz] at hzf HFN
                obtain ⟨hwa, hwb, hwc, hz32⟩ := d7_nums hz hzf hsb HB0.out
                have hwa' := (wrap_eq64 _).symm.trans hwa
                have hwb' := (wrap_eq64 _).symm.trans hwb
                have hwc' := (wrap_eq64 _).symm.trans hwc
                have HZ32 : Hid (32 ≤ z) := Lib.hid hz32
                clear hz hzf hz32
                by_cases hbig : bound < (sz : Int) + (z : Int)
                · as_aux_lemma =>
                  have HFE : Hid (FR = (22, [], G, lm)) := Lib.hid (by have := HFN.out; rw [if_pos hbig] at this; exact this)
                  go_upto_region 43 with (at_builtin; with_reducible refine wp_app rfl (.tmp 134) (.tmp 141) _ rfl hap rfl rfl rfl ?_)
                  clear p0 p1 p2 p3 p4 q0 q1 q2 q3 hap
                  obtain ⟨pp0, pp1, pp2, pp3, pp4⟩ := (HD10.out).st.c5
                  have pz4 := (HD10.out).st.frozen 4
                  go_upto_region 44 with fail
                  (try clear hwa hwb hwc hwa' hwb' hwc' hbig)
                  (try clear hwa hwb hwc hwa' hwb' hwc')
                  (try clear ek0); (try clear ek1); (try clear ek2); (try clear ek3); (try clear ek4); (try clear ek5); (try clear ek6); (try clear hu3 hu4 hcu); (try clear hnp); (try clear hbd); (try clear hsb hos hl0 hl1 hl2 hr1); (try clear hxb); (try clear hln2); (try clear hu1 hu2 hN); (try clear hg hS0 hsz); (try clear hNp hNq hNr hNs); (try clear hNp)
                  refine wp_gen (fun W => Blk W s0 49 #[.slice A G.length c, .int .i64 lm, .int .i64 most, .int .i64 bound, .bool true] ∧ Blk W r0 49 #[.slice none 0 0, .int .i64 0, .int .i64 0, .int .i64 0, .bool false] ∧ Only (fun k => k = s0 ∨ k = r0) w10 W) (d7_flag (HD10.out)) ?_
                  rintro WF ⟨hbf1, hbf2, hof⟩
                  clear pp0 pp1 pp2 pp3 pp4 pz4
                  obtain ⟨pp0, pp1, pp2, pp3, pp4⟩ := hbf1.c5
                  obtain ⟨oo0, oo1, oo2, oo3, oo4⟩ := hbf2.c5
                  have oz0 := hbf2.frozen 0
                  have oz1 := hbf2.frozen 1
                  have oz2 := hbf2.frozen 2
                  have oz3 := hbf2.frozen 3
                  have oz4 := hbf2.frozen 4
                  have HBF2 := Lib.hid hbf2
                  have HOF := Lib.hid hof
                  clear hbf1 hbf2 hof
                  go_wp2
                  refine wx_gen (fun W => Blk W r0 49 #[.slice A G.length c, .int .i64 lm, .int .i64 most, .int .i64 bound, .bool true] ∧ Only (fun k => k = s0 ∨ k = r0) w10 W) (d7_out HBF2.out HOF.out) ?_
                  rintro W7 ⟨hb7, ho7⟩
                  obtain ⟨g0, g1, g2, g3, g4⟩ := hb7.c5
                  rw [← HQB.out]
                  exact bodyPost_ret (v := .tuple #[.agg #[.slice A G.length c, .int .i64 lm, .int .i64 most, .int .i64 bound, .bool true], .slice none 0 0, .int .i64 22]) (by simp [results, Try.results22, go_sem, g0, g1, g2, g3, g4]) rfl (HDIE.out 22 G lm A c _ _ s0 r0 w10 W7 (by decide) HFE.out HD10.out ho7)
                · as_aux_lemma =>
                  have HGO : Hid (FR = blockR most bound l'.length G lm (sz + z) (out ++ [((F1, F2), false)]) l') := Lib.hid (by have := HFN.out; rw [if_neg hbig] at this; exact d7_fuel this (Nat.le_trans HL3.out HRL.out))
                  have hzz := bk_size hos HZ32.out hbig
                  have HZG : Hid ((tz G : Int) ≤ lm) := Lib.hid HTG.out
                  have HLO : Hid ((out ++ [((F1, F2), false)]).length = out.length + 1) := Lib.hid (by simp)
                  have HS3 : Hid ((strB l').size = l'.length) := Lib.hid (strB_size l')
                  go_wp2_with (at_builtin; with_reducible refine wp_app rfl (.tmp 134) (.tmp 141) _ rfl hap rfl rfl rfl ?_)
                  exact ⟨⟨l', A10, out ++ [((F1, F2), false)], c10, sz + z, G, lm, A, c, rfl, by rw [HLO.out], by rw [hzz.2.2], d7_ten HL3.out hln2, hzz.2.1, by rw [HLO.out]; exact hzz.1, hl0, hl1, HZG.out, HGO.out, by rw [HLO.out]; exact HD10.out⟩, by simp only [siz7]; rw [HS3.out, hsz]; exact d7_less HL3.out HLT.out⟩
          · obtain ⟨hNp, hNq, hNr, hNs⟩ := pos4 hN0
            cases hen : entR gs N with
            | none =>
              as_aux_lemma =>
              go_wp2_with fail
              with_reducible refine (HBI.out _).mono ?_
              rintro e5 w5 ⟨rfl, rfl⟩
              go_wp2_with fail
              with_reducible refine (HPX.out _).mono ?_
              rintro e5 w5 ⟨rfl, hf5⟩
              have HD5 := Lib.hid (HD.out.fresh hf5)
              have HF5 := Lib.hid hf5
              clear hf5
              go_upto_region 19 with fail
              refine wp_gen (fun W => Blk W w5.heap.size 77 #[.string ⟨#[]⟩, .string ⟨#[]⟩] ∧ Fresh w5 W) ⟨Blk.new _ _ _, Fresh.alloc _ _⟩ ?_
              rintro W6 ⟨hb6, hf6⟩
              have HG0 : Hid (wr.heap.size ≤ w5.heap.size) := Lib.hid HF5.out.size
              generalize w5.heap.size = f0 at *
              have HB6 := Lib.hid hb6
              have HF6 := Lib.hid (HF5.out.trans hf6)
              have HD6 := Lib.hid (HD5.out.fresh hf6)
              clear hb6 hf6 HD5 HF5
              have HFE : Hid (FR = (23, [], gs, lm)) := Lib.hid (by
                have h2 := HFL.out
                have h3 : lineR gs 4 N l2 = (23, (strB [], strB []), 0) := by
                  unfold lineR
                  first
                  | (rw [if_pos rfl, hen]; done)
                  | (rw [if_neg (by decide)]; exact fieldR_entry_no hN0 hen)
                have hG : fsL gs lm 4 N l2 = gs := by unfold fsL; rw [if_neg (by rw [h3]; simp)]
                rw [hG, h3, if_pos (by simp)] at h2
                exact h2)
              obtain ⟨p0, p1, p2, p3, p4⟩ := HD6.out.st.c5
              rw [hen] at HENT
              simp only [nofV] at HENT
              clear hen HFL
              go_wp2_with fail
              with_reducible refine (HENT.out _ HD6.out.li).mono ?_
              rintro e7 w7 ⟨rfl, hf7⟩
              have HF7 := Lib.hid (HF6.out.trans hf7)
              have HB7 := Lib.hid (HB6.out.fresh hf7)
              clear hf7 p0 p1 p2 p3 p4
              obtain ⟨q0, q1⟩ := HB7.out.c2
              have qz0 := HB7.out.frozen 0
              have qz1 := HB7.out.frozen 1
              go_upto_region 22 with fail
              refine wp_gen (fun W => Fresh wr W) (by repeat (first | with_reducible exact HF7.out | (with_reducible refine Fresh.step2 ?_ ?_; focus (exact HG0.out)))) ?_
              intro w8 hf8
              have HD8 := Lib.hid (HD.out.fresh hf8)
              clear hf8 q0 q1 qz0 qz1
              obtain ⟨pp0, pp1, pp2, pp3, pp4⟩ := (HD8.out).st.c5
              have pz4 := (HD8.out).st.frozen 4
              go_upto_region 24 with fail
              (try clear hwa hwb hwc hwa' hwb' hwc' hbig)
              (try clear hwa hwb hwc hwa' hwb' hwc')
              (try clear ek0); (try clear ek1); (try clear ek2); (try clear ek3); (try clear ek4); (try clear ek5); (try clear ek6); (try clear hu3 hu4 hcu); (try clear hnp); (try clear hbd); (try clear hsb hos hl0 hl1 hl2 hr1); (try clear hxb); (try clear hln2); (try clear hu1 hu2 hN); (try clear hg hS0 hsz); (try clear hNp hNq hNr hNs); (try clear hNp)
              refine wp_gen (fun W => Blk W s0 49 #[.slice A gs.length c, .int .i64 lm, .int .i64 most, .int .i64 bound, .bool true] ∧ Blk W r0 49 #[.slice none 0 0, .int .i64 0, .int .i64 0, .int .i64 0, .bool false] ∧ Only (fun k => k = s0 ∨ k = r0) w8 W) (d7_flag (HD8.out)) ?_
              rintro WF ⟨hbf1, hbf2, hof⟩
              clear pp0 pp1 pp2 pp3 pp4 pz4
              obtain ⟨pp0, pp1, pp2, pp3, pp4⟩ := hbf1.c5
              obtain ⟨oo0, oo1, oo2, oo3, oo4⟩ := hbf2.c5
              have oz0 := hbf2.frozen 0
              have oz1 := hbf2.frozen 1
              have oz2 := hbf2.frozen 2
              have oz3 := hbf2.frozen 3
              have oz4 := hbf2.frozen 4
              have HBF2 := Lib.hid hbf2
              have HOF := Lib.hid hof
              clear hbf1 hbf2 hof
              go_wp2
              refine wx_gen (fun W => Blk W r0 49 #[.slice A gs.length c, .int .i64 lm, .int .i64 most, .int .i64 bound, .bool true] ∧ Only (fun k => k = s0 ∨ k = r0) w8 W) (d7_out HBF2.out HOF.out) ?_
              rintro W7 ⟨hb7, ho7⟩
              obtain ⟨g0, g1, g2, g3, g4⟩ := hb7.c5
              rw [← HQB.out]
              exact bodyPost_ret (v := .tuple #[.agg #[.slice A gs.length c, .int .i64 lm, .int .i64 most, .int .i64 bound, .bool true], .slice none 0 0, .int .i64 23]) (by simp [results, Try.results22, go_sem, g0, g1, g2, g3, g4]) rfl (HDIE.out 23 gs lm A c _ out s0 r0 w8 W7 (by decide) HFE.out HD8.out ho7)
            | some fe =>
              as_aux_lemma =>
              go_wp2_with fail
              with_reducible refine (HBI.out _).mono ?_
              rintro e5 w5 ⟨rfl, rfl⟩
              go_wp2_with fail
              with_reducible refine (HPX.out _).mono ?_
              rintro e5 w5 ⟨rfl, hf5⟩
              have HD5 := Lib.hid (HD.out.fresh hf5)
              have HF5 := Lib.hid hf5
              clear hf5
              go_upto_region 19 with fail
              refine wp_gen (fun W => Blk W w5.heap.size 77 #[.string ⟨#[]⟩, .string ⟨#[]⟩] ∧ Fresh w5 W) ⟨Blk.new _ _ _, Fresh.alloc _ _⟩ ?_
              rintro W6 ⟨hb6, hf6⟩
              have HG0 : Hid (wr.heap.size ≤ w5.heap.size) := Lib.hid HF5.out.size
              generalize w5.heap.size = f0 at *
              have HB6 := Lib.hid hb6
              have HF6 := Lib.hid (HF5.out.trans hf6)
              have HD6 := Lib.hid (HD5.out.fresh hf6)
              clear hb6 hf6 HD5 HF5
              obtain ⟨E1, E2⟩ := fe
              have HEN := Lib.hid hen
              obtain ⟨p0, p1, p2, p3, p4⟩ := HD6.out.st.c5
              rw [hen] at HENT
              simp only at HENT
              clear hen
              go_wp2_with fail
              with_reducible refine (HENT.out _ HD6.out.li).mono ?_
              rintro e7 w7 ⟨rfl, hf7⟩
              have HF7 := Lib.hid (HF6.out.trans hf7)
              have HB7 := Lib.hid (HB6.out.fresh hf7)
              clear hf7 p0 p1 p2 p3 p4
              obtain ⟨q0, q1⟩ := HB7.out.c2
              have qz0 := HB7.out.frozen 0
              have qz1 := HB7.out.frozen 1
              go_upto_region 25 with fail
              refine wp_gen (fun W => Blk W f0 77 #[.string E1, .string E2] ∧ Fresh wr W) ⟨by simpa using (HB7.out.set 0 (.string E1)).set 1 (.string E2), by repeat (first | with_reducible exact HF7.out | (with_reducible refine Fresh.step2 ?_ ?_; focus (exact HG0.out)))⟩ ?_
              rintro W8 ⟨hb8, hf8⟩
              have HB8 := Lib.hid hb8
              have HF8 := Lib.hid hf8
              clear hb8 hf8 q0 q1 qz0 qz1
              have HINL := Lib.hid (inR_line gs 4 N l2 (E1, E2) (fun _ => HEN.out))
              obtain ⟨IR, hIR⟩ : ∃ IR, inR 4 N 2 0 (E1, E2) l2 = IR := ⟨_, rfl⟩
              rw [hIR] at HINL
              have HIR0 := Lib.hid hIR
              have HLE : Hid (∀ e : Nat, e ≠ 0 → IR.1 = e → FR = (e, [], gs, lm)) := Lib.hid (fun e he hI => by
                have h1 := HINL.out.1
                have h2 := HFL.out
                rw [hI] at h1
                have hG : fsL gs lm 4 N l2 = gs := by unfold fsL; rw [if_neg (fun hh => he (by rw [h1]; exact hh.2))]
                rw [← h1, hG, if_pos he] at h2
                exact h2)
              clear hIR
              go_wp2_with fail
              go_loopw [1, 15] (fun bx kx W => ∃ (k : Nat) (f : FldT) (l' : List UInt8), k ≤ 2 ∧ kx = .int .i64 (k : Int) ∧ bx = .string (strB l') ∧ l'.length ≤ l2.length ∧ inR 4 N (2 - k) k f l' = IR ∧ Blk W f0 77 #[.string f.1, .string f.2] ∧ Fresh wr W) (fun _ kx _ => 2 - (intOf kx).toNat)
              case atStart => exact ⟨0, (E1, E2), l2, by decide, rfl, rfl, Nat.le_refl _, HIR0.out, HB8.out, HF8.out⟩
              case round =>
                obtain ⟨k, ⟨F1, F2⟩, l', hk, rfl, rfl, hl', hir, hbf, hfw⟩ := hrel
                have HIR := Lib.hid hir
                have HBF := Lib.hid hbf
                have HFW := Lib.hid hfw
                have HDW := Lib.hid (HD.out.fresh hfw)
                simp only at HBF
                clear hir hbf hfw HIR0 HB8 HF8
                rcases k012 hk with rfl | rfl | rfl
                · as_aux_lemma =>
                  rw [show ((0 : Nat) : Int) = 0 from rfl]
                  have hI : inR 4 N (2 - 0 - 1) (0 + 1) (F1, F2) l' = IR := by
                    rw [← HIR.out]
                    exact (inR_skip (.inr ⟨rfl, hNq⟩)).symm
                  have HI := Lib.hid hI
                  clear hI
                  go_wp2
                  exact ⟨⟨0 + 1, (F1, F2), l', by decide, by go_num, rfl, hl', HI.out, HBF.out, HFW.out⟩, by simp [intOf]⟩
                · as_aux_lemma =>
                  rw [show ((1 : Nat) : Int) = 1 from rfl]
                  have HIR2 := HIR.out
                  have HT := Lib.hid (fun W => rf4_decode W l' 4096 (d7_ten hl' hln2))
                  have hus := fun h0 => (litR_used l' 4096 h0).2
                  unfold Lit4P at HT
                  obtain ⟨R4, hR4⟩ : ∃ R4, litR l' 4096 = R4 := ⟨_, rfl⟩
                  rw [hR4] at HT hus
                  obtain ⟨X, u4, e4⟩ := R4
                  simp only at HT hus
                  have hsz4 : (strB l').size = l'.length := strB_size l'
                  have hcu4 : (strB l').extract u4 l'.length = strB (l'.drop u4) := str_drop7 _ _
                  by_cases he4 : e4 = 0
                  · subst he4
                    have hul := hus rfl
                    have hI : inR 4 N (2 - 1 - 1) (1 + 1) (F1, strB X) (l'.drop u4) = IR := by
                      rw [← HIR2]
                      have h9 := inR_read (kd := 4) (n := N) (m := 2 - 1 - 1) (k := 1) (f := (F1, F2)) (l := l') (by simp) (by rw [hR4]; simp)
                      rw [hR4] at h9
                      exact h9.symm
                    have HI := Lib.hid hI
                    have HL4 : Hid ((l'.drop u4).length ≤ l2.length) := Lib.hid (drop_le7 u4 hl')
                    have hu40 : (0 : Int) ≤ (u4 : Int) := Int.natCast_nonneg u4
                    have hu41 : (u4 : Int) ≤ (l'.length : Int) := Int.ofNat_le.2 hul
                    obtain ⟨q0, q1⟩ := HBF.out.c2
                    have qz := HBF.out.frozen 1
                    rw [show ((0 : Nat) : Int) = 0 from rfl] at HT
                    clear HIR2 hus hR4 hul hI
                    generalize l'.drop u4 = l3 at *
                    generalize strB l' = S' at *
                    generalize strB X = SX at *
                    generalize hll : l'.length = n' at *
                    go_wp2_with fail
                    with_reducible refine (HT.out _).mono ?_
                    rintro e5 w6 ⟨rfl, hf6⟩
                    have HB6 := Lib.hid (HBF.out.fresh hf6)
                    have HF6 := Lib.hid (HFW.out.trans hf6)
                    clear q0 q1 qz hf6
                    obtain ⟨q0, q1⟩ := HB6.out.c2
                    have qz := HB6.out.frozen 1
                    go_wp2
                    exact ⟨⟨1 + 1, (F1, SX), l3, by decide, by go_num, rfl, HL4.out, HI.out, by simpa using HB6.out.set 1 (.string SX), HF6.out.step _ _ HG0.out⟩, by simp [intOf]⟩
                  · have hI : IR = (e4, (F1, F2), l') := by
                      rw [← HIR2]
                      have h9 := inR_err (kd := 4) (n := N) (m := 2 - 1 - 1) (k := 1) (f := (F1, F2)) (l := l') (by simp) (by rw [hR4]; exact he4)
                      rw [hR4] at h9
                      exact h9
                    have HFE : Hid (FR = (e4, [], gs, lm)) := Lib.hid (HLE.out e4 he4 (by rw [hI]))
                    obtain ⟨h0d, h0i⟩ := nz4 he4
                    clear HIR2 hus hR4 hI hcu4
                    generalize strB l' = S' at *
                    generalize strB X = SX at *
                    go_wp2_with fail
                    with_reducible refine (HT.out _).mono ?_
                    rintro e5 w6 ⟨rfl, hf6⟩
                    have HD6 := Lib.hid (HDW.out.fresh hf6)
                    clear hf6
                    obtain ⟨pp0, pp1, pp2, pp3, pp4⟩ := (HD6.out).st.c5
                    have pz4 := (HD6.out).st.frozen 4
                    go_upto_region 32 with fail
                    (try clear hwa hwb hwc hwa' hwb' hwc' hbig)
                    (try clear hwa hwb hwc hwa' hwb' hwc')
                    (try clear ek0); (try clear ek1); (try clear ek2); (try clear ek3); (try clear ek4); (try clear ek5); (try clear ek6); (try clear hu3 hu4 hcu); (try clear hnp); (try clear hbd); (try clear hsb hos hl0 hl1 hl2 hr1); (try clear hxb); (try clear hln2); (try clear hu1 hu2 hN); (try clear hg hS0 hsz); (try clear hNp hNq hNr hNs); (try clear hNp)
                    refine wp_gen (fun W => Blk W s0 49 #[.slice A gs.length c, .int .i64 lm, .int .i64 most, .int .i64 bound, .bool true] ∧ Blk W r0 49 #[.slice none 0 0, .int .i64 0, .int .i64 0, .int .i64 0, .bool false] ∧ Only (fun k => k = s0 ∨ k = r0) w6 W) (d7_flag (HD6.out)) ?_
                    rintro WF ⟨hbf1, hbf2, hof⟩
                    clear pp0 pp1 pp2 pp3 pp4 pz4
                    obtain ⟨pp0, pp1, pp2, pp3, pp4⟩ := hbf1.c5
                    obtain ⟨oo0, oo1, oo2, oo3, oo4⟩ := hbf2.c5
                    have oz0 := hbf2.frozen 0
                    have oz1 := hbf2.frozen 1
                    have oz2 := hbf2.frozen 2
                    have oz3 := hbf2.frozen 3
                    have oz4 := hbf2.frozen 4
                    have HBF2 := Lib.hid hbf2
                    have HOF := Lib.hid hof
                    clear hbf1 hbf2 hof
                    go_wp2
                    refine wx_gen (fun W => Blk W r0 49 #[.slice A gs.length c, .int .i64 lm, .int .i64 most, .int .i64 bound, .bool true] ∧ Only (fun k => k = s0 ∨ k = r0) w6 W) (d7_out HBF2.out HOF.out) ?_
                    rintro W7 ⟨hb7, ho7⟩
                    obtain ⟨g0, g1, g2, g3, g4⟩ := hb7.c5
                    rw [← HQB.out]
                    exact bodyPost_ret (v := .tuple #[.agg #[.slice A gs.length c, .int .i64 lm, .int .i64 most, .int .i64 bound, .bool true], .slice none 0 0, .int .i64 (e4 : Int)]) (by simp [results, Try.results22, go_sem, g0, g1, g2, g3, g4]) rfl (HDIE.out e4 gs lm A c _ out s0 r0 w6 W7 he4 HFE.out HD6.out ho7)
                · have h2 := HIR.out
                  have h3 : IR = (0, (F1, F2), l') := by rw [← h2]; rfl
                  have h4 := HINL.out
                  rw [h3] at h4
                  obtain ⟨h5, h6⟩ := h4
                  obtain ⟨h7, h8⟩ := h6 h5.symm
                  simp only at h5 h7 h8
                  have hz1 := lineR_fz gs 4 N l2 (d7_gs hl1 hl2 HMX.out).1
                  rw [← h7] at hz1
                  have HZF := Lib.hid hz1
                  have h9 := HFL.out
                  rw [if_neg (by rw [← h5]; simp), ← h7, ← h8] at h9
                  have hG : fsL gs lm 4 N l2 = gs := by unfold fsL; rw [if_neg (fun hh => absurd hh.1 (by decide))]
                  have HTG0 := Lib.hid (tz_fsL gs lm 4 N l2 hl0 hl2)
                  obtain ⟨G, hGG⟩ : ∃ G, fsL gs lm 4 N l2 = G := ⟨_, rfl⟩
                  rw [hGG] at hG h9 HTG0
                  have HGE := Lib.hid hG
                  have HTG := HTG0
                  obtain ⟨l3, hl3⟩ : ∃ l3, l' = l3 := ⟨_, rfl⟩
                  subst hl3
                  have HFN : Hid (FR = if bound < (sz : Int) + (fz (F1, F2) : Int) then (22, [], G, lm) else blockR most bound r.length G lm (sz + fz (F1, F2)) (out ++ [((F1, F2), false)]) l') := Lib.hid h9
                  have HL3 := Lib.hid hl'
                  rw [show ((2 : Nat) : Int) = 2 from rfl]
                  clear h2 h3 h5 h6 h7 h8 h9 hz1 hG hGG HTG0 HIR HINL HFL HLE
                  have HGA : Hid (G = gs) := Lib.hid HGE.out
                  obtain rfl := HGA.out
                  obtain ⟨A10, c10, w10, hap, hO10, hF10⟩ := lnr_push (w := wr) (base := r0 + 1) HDW.out.own HDW.out.room ((F1, F2), false) (d7_push (z := 0) hos hsb HB0.out.2) wr.heap.size rfl
                  rw [show nvI false = 0 from rfl] at hap
                  simp only at hap
                  have HB10 : Hid (Blk w10 f0 77 #[.string F1, .string F2]) := Lib.hid (HBF.out.only hF10 (fun e => by
                    obtain ⟨cs', hb'⟩ := ownBlkD HDW.out.own e
                    exact HBF.out.ne hb' (by decide) rfl))
                  have HD10 : Hid (D7 w w10 s0 r0 A c G lm most bound (.slice A10 (out.length + 1) c10) (out ++ [((F1, F2), false)])) := Lib.hid (HDW.out.push hO10 hF10)
                  obtain ⟨q0, q1⟩ := HBF.out.c2
                  clear hO10 hF10
                  obtain ⟨q2, q3⟩ := HB10.out.c2
                  obtain ⟨p0, p1, p2, p3, p4⟩ := HD10.out.st.c5
                  obtain ⟨z, hz⟩ : ∃ z, fz (F1, F2) = z := ⟨_, rfl⟩
                  have hzf := HZF.out
                  rw [hz] at hzf HFN
                  obtain ⟨hwa, hwb, hwc, hz32⟩ := d7_nums hz hzf hsb HB0.out
                  have hwa' := (wrap_eq64 _).symm.trans hwa
                  have hwb' := (wrap_eq64 _).symm.trans hwb
                  have hwc' := (wrap_eq64 _).symm.trans hwc
                  have HZ32 : Hid (32 ≤ z) := Lib.hid hz32
                  clear hz hzf hz32
                  by_cases hbig : bound < (sz : Int) + (z : Int)
                  · as_aux_lemma =>
                    have HFE : Hid (FR = (22, [], G, lm)) := Lib.hid (by have := HFN.out; rw [if_pos hbig] at this; exact this)
                    go_upto_region 43 with (at_builtin; with_reducible refine wp_app rfl (.tmp 134) (.tmp 141) _ rfl hap rfl rfl rfl ?_)
                    clear p0 p1 p2 p3 p4 q0 q1 q2 q3 hap
                    obtain ⟨pp0, pp1, pp2, pp3, pp4⟩ := (HD10.out).st.c5
                    have pz4 := (HD10.out).st.frozen 4
                    go_upto_region 44 with fail
                    (try clear hwa hwb hwc hwa' hwb' hwc' hbig)
                    (try clear hwa hwb hwc hwa' hwb' hwc')
                    (try clear ek0); (try clear ek1); (try clear ek2); (try clear ek3); (try clear ek4); (try clear ek5); (try clear ek6); (try clear hu3 hu4 hcu); (try clear hnp); (try clear hbd); (try clear hsb hos hl0 hl1 hl2 hr1); (try clear hxb); (try clear hln2); (try clear hu1 hu2 hN); (try clear hg hS0 hsz); (try clear hNp hNq hNr hNs); (try clear hNp)
                    refine wp_gen (fun W => Blk W s0 49 #[.slice A G.length c, .int .i64 lm, .int .i64 most, .int .i64 bound, .bool true] ∧ Blk W r0 49 #[.slice none 0 0, .int .i64 0, .int .i64 0, .int .i64 0, .bool false] ∧ Only (fun k => k = s0 ∨ k = r0) w10 W) (d7_flag (HD10.out)) ?_
                    rintro WF ⟨hbf1, hbf2, hof⟩
                    clear pp0 pp1 pp2 pp3 pp4 pz4
                    obtain ⟨pp0, pp1, pp2, pp3, pp4⟩ := hbf1.c5
                    obtain ⟨oo0, oo1, oo2, oo3, oo4⟩ := hbf2.c5
                    have oz0 := hbf2.frozen 0
                    have oz1 := hbf2.frozen 1
                    have oz2 := hbf2.frozen 2
                    have oz3 := hbf2.frozen 3
                    have oz4 := hbf2.frozen 4
                    have HBF2 := Lib.hid hbf2
                    have HOF := Lib.hid hof
                    clear hbf1 hbf2 hof
                    go_wp2
                    refine wx_gen (fun W => Blk W r0 49 #[.slice A G.length c, .int .i64 lm, .int .i64 most, .int .i64 bound, .bool true] ∧ Only (fun k => k = s0 ∨ k = r0) w10 W) (d7_out HBF2.out HOF.out) ?_
                    rintro W7 ⟨hb7, ho7⟩
                    obtain ⟨g0, g1, g2, g3, g4⟩ := hb7.c5
                    rw [← HQB.out]
                    exact bodyPost_ret (v := .tuple #[.agg #[.slice A G.length c, .int .i64 lm, .int .i64 most, .int .i64 bound, .bool true], .slice none 0 0, .int .i64 22]) (by simp [results, Try.results22, go_sem, g0, g1, g2, g3, g4]) rfl (HDIE.out 22 G lm A c _ _ s0 r0 w10 W7 (by decide) HFE.out HD10.out ho7)
                  · as_aux_lemma =>
                    have HGO : Hid (FR = blockR most bound l'.length G lm (sz + z) (out ++ [((F1, F2), false)]) l') := Lib.hid (by have := HFN.out; rw [if_neg hbig] at this; exact d7_fuel this (Nat.le_trans HL3.out HRL.out))
                    have hzz := bk_size hos HZ32.out hbig
                    have HZG : Hid ((tz G : Int) ≤ lm) := Lib.hid HTG.out
                    have HLO : Hid ((out ++ [((F1, F2), false)]).length = out.length + 1) := Lib.hid (by simp)
                    have HS3 : Hid ((strB l').size = l'.length) := Lib.hid (strB_size l')
                    go_wp2_with (at_builtin; with_reducible refine wp_app rfl (.tmp 134) (.tmp 141) _ rfl hap rfl rfl rfl ?_)
                    exact ⟨⟨l', A10, out ++ [((F1, F2), false)], c10, sz + z, G, lm, A, c, rfl, by rw [HLO.out], by rw [hzz.2.2], d7_ten HL3.out hln2, hzz.2.1, by rw [HLO.out]; exact hzz.1, hl0, hl1, HZG.out, HGO.out, by rw [HLO.out]; exact HD10.out⟩, by simp only [siz7]; rw [HS3.out, hsz]; exact d7_less HL3.out HLT.out⟩
end Go.Proofs.Ytdoddpigiencjaa

