/-
  The law FrameBytes: its walk.
-/
import Derived.Test.YtplpaobbgfdinaaFrameR
namespace Go.Proofs.Ytplpaobbgfdinaa
set_option linter.unusedVariables false
open Go.RowKit

/-- A boxed frame, as it stands; beside it what may be read. -/
abbrev OneFr (w0 : World) (g : Nat) (a b c d : Value) (w' : World) : Prop :=
  w'.cell? ⟨g, 0, none⟩ = some a ∧ w'.cell? ⟨g, 1, none⟩ = some b ∧ w'.cell? ⟨g, 2, none⟩ = some c ∧ w'.cell? ⟨g, 3, none⟩ = some d ∧ g < w'.heap.size ∧ Fresh w0 w'
theorem OneFr.start (w : World) (a b c d : Value) (t : TypeId) : OneFr w w.heap.size a b c d (w.alloc (.cells #[a, b, c, d] t)) := by
  have hb := Blk.new w t #[a, b, c, d]
  exact ⟨hb.cell 0, hb.cell 1, hb.cell 2, hb.cell 3, hb.lt, Fresh.alloc _ _⟩
theorem OneFr.fresh {w0 W W' : World} {g : Nat} {a b c d : Value} (h : OneFr w0 g a b c d W) (hf : Fresh W W') : OneFr w0 g a b c d W' := by
  obtain ⟨h0, h1, h2, h3, h4, h5⟩ := h
  have k0 : ∀ o, W'.cell? ⟨g, o, none⟩ = W.cell? ⟨g, o, none⟩ := fun o => hf.cell (p := ⟨g, o, none⟩) h4
  exact ⟨(k0 _).trans h0, (k0 _).trans h1, (k0 _).trans h2, (k0 _).trans h3, by have := hf.size; omega, h5.trans hf⟩
theorem OneFr.fr {w0 W : World} {g : Nat} {a b c d : Value} (h : OneFr w0 g a b c d W) : Fresh w0 W := h.2.2.2.2.2

/-- A boxed frame, as it stands, and two slices of bytes that read as texts. -/
abbrev OneFr2 (w0 : World) (g : Nat) (a b c d v1 v2 : Value) (s1 s2 : ByteArray) (w' : World) : Prop :=
  w'.cell? ⟨g, 0, none⟩ = some a ∧ w'.cell? ⟨g, 1, none⟩ = some b ∧ w'.cell? ⟨g, 2, none⟩ = some c ∧ w'.cell? ⟨g, 3, none⟩ = some d ∧ g < w'.heap.size ∧ Fresh w0 w' ∧
  (convert 22 9 v1).run Try.prog w' = .ok (.string s1) w' ∧ (convert 22 9 v2).run Try.prog w' = .ok (.string s2) w'
theorem OneFr2.fresh {w0 W W' : World} {g : Nat} {a b c d v1 v2 : Value} {s1 s2 : ByteArray} (h : OneFr2 w0 g a b c d v1 v2 s1 s2 W) (hf : Fresh W W')
    (h1 : Hid (∀ W, Fresh w0 W → (convert 22 9 v1).run Try.prog W = .ok (.string s1) W)) (h2 : Hid (∀ W, Fresh w0 W → (convert 22 9 v2).run Try.prog W = .ok (.string s2) W)) : OneFr2 w0 g a b c d v1 v2 s1 s2 W' := by
  obtain ⟨k0, k1, k2, k3, k4, k5, _, _⟩ := h
  obtain ⟨m0, m1, m2, m3, m4, m5⟩ := OneFr.fresh (⟨k0, k1, k2, k3, k4, k5⟩ : OneFr w0 g a b c d W) hf
  exact ⟨m0, m1, m2, m3, m4, m5, h1.out _ m5, h2.out _ m5⟩

set_option maxRecDepth 100000 in
set_option maxHeartbeats 6400000 in
theorem FrameBytes_any (f : FrV) (most : Int) (w : World) (hf : f.Ok w) (_ : (Lit.int .i64 most).wf = true) :
    Calls Try.prog 3 #[.agg #[.int .i64 f.ty, .int .i64 f.fl, .int .i64 f.st, .slice f.A f.l.length f.c], .int .i64 most] w fun e w' => e = .returned (.bool true) ∧ Below w.heap.size w w' := by
  obtain ⟨ty, fl, st, A, c, l⟩ := f
  simp only []
  have hA := hf.bs
  have hle := hf.le
  have hmax := hf.max
  simp only [] at hA hle hmax
  clear hf
  have HW := Lib.hid awake_true
  have HT := Lib.hid (OneFr.start w (.int .i64 ty) (.int .i64 fl) (.int .i64 st) (.slice A l.length c) 24)
  by_cases h1 : 500 < l.length
  · have h1' : (500 : Int) < (l.length : Int) := by omega
    go_enter Try.func3, Try.ntmps3
    go_wp2_with fail
    with_reducible refine (HW.out _).mono ?_
    rintro e w3 ⟨rfl, hf3⟩
    have HF3 := Lib.hid (HT.out.fr.trans hf3)
    clear hf3
    go_wp2
    go_ret
    exact ⟨rfl, HF3.out⟩
  · have h1' : ¬ (500 : Int) < (l.length : Int) := by omega
    have HR1 := Lib.hid (fun W => fright ty fl st A l.length c W)
    have HR2 := Lib.hid (fun W => lright ty fl st A l.length c W)
    have HL := Lib.hid (fun W => flen ty fl st A l.length c W (by omega))
    have HE := Lib.hid (fun W (h : Fresh w W) => fequal_at ty fl st A l.length l c ty fl st A l.length l c W true rfl rfl (hA.fresh h) (hA.fresh h) (by simp [frEq]))
    cases hr : frR ty fl st l.length with
    | false =>
      have HB := Lib.hid (fun W => fbytes_no ty fl st A l.length c W hr)
      rw [hr] at HR1 HR2
      clear hr hA
      go_enter Try.func3, Try.ntmps3
      go_wp2_with fail
      with_reducible refine (HB.out _).mono ?_
      rintro e w2 ⟨rfl, hf2⟩
      have HT2 := Lib.hid (HT.out.fresh hf2)
      clear hf2
      go_wp2_with fail
      have HT2d := Lib.hid (HT2.out.fresh (Fresh.drew _))
      have hwr : IntKind.i64.wrap ((9 : Int) + (l.length : Int)) = 9 + (l.length : Int) := IntWalk.i64_in _ (by omega)
      have hq1 : (((9 : Int) + (l.length : Int)) != ((9 : Int) + (l.length : Int))) = false := by simp
      go_region_held3 (fun w' => w'.cell? ⟨w.heap.size, 0, none⟩ = some (.int .i64 ty) ∧ w'.cell? ⟨w.heap.size, 1, none⟩ = some (.int .i64 fl) ∧ w'.cell? ⟨w.heap.size, 2, none⟩ = some (.int .i64 st) ∧ w'.cell? ⟨w.heap.size, 3, none⟩ = some (.slice A l.length c) ∧ w.heap.size < w'.heap.size ∧ Fresh w w')
        (first | assumption | exact HT2d.out | exact OneFr.fresh (by assumption) hfk)
        (first
          | (go_at_call 11; with_reducible refine (HR1.out _).mono ?_; rintro e w3 ⟨rfl, hfk⟩)
          | (go_at_call 12; with_reducible refine (HR2.out _).mono ?_; rintro e w3 ⟨rfl, hfk⟩)
          | (go_at_call 13; with_reducible refine (HL.out _).mono ?_; rintro e w3 ⟨rfl, hfk⟩)
          | (go_at_call 14; have hFr := OneFr.fr (by assumption : OneFr w w.heap.size (.int .i64 ty) (.int .i64 fl) (.int .i64 st) (.slice A l.length c) _); with_reducible refine (HE.out _ hFr).mono ?_; rintro e w3 ⟨rfl, hfk⟩))
      clear hwr hq1
      have HT4 := Lib.hid (by assumption : OneFr w w.heap.size (.int .i64 ty) (.int .i64 fl) (.int .i64 st) (.slice A l.length c) _)
      obtain ⟨c0, c1, c2, c3, c4, c5⟩ := HT4.out
      clear c5
      go_wp2_with fail
      with_reducible refine (HR2.out _).mono ?_
      rintro e w5 ⟨rfl, hf5⟩
      have HT5 := Lib.hid (HT4.out.fresh hf5)
      clear hf5 c0 c1 c2 c3 c4
      go_wp2_with fail
      with_reducible refine (HW.out _).mono ?_
      rintro e w6 ⟨rfl, hf6⟩
      have HF6 := Lib.hid (HT5.out.fr.trans hf6)
      clear hf6
      go_wp2
      go_ret
      exact ⟨rfl, HF6.out⟩
    | true =>
      obtain ⟨x, hx⟩ : ∃ x : UInt8, ty = (x.toNat : Int) := by
        have := of_decide_eq_true hr
        exact ⟨UInt8.ofNat ty.toNat, by simp; omega⟩
      obtain ⟨y, hy⟩ : ∃ y : UInt8, fl = (y.toNat : Int) := by
        have := of_decide_eq_true hr
        exact ⟨UInt8.ofNat fl.toNat, by simp; omega⟩
      obtain ⟨s, hs, hs31⟩ : ∃ s : Nat, st = (s : Int) ∧ s ≤ 2147483647 := by
        have := of_decide_eq_true hr
        exact ⟨st.toNat, by omega, by omega⟩
      have hx8 := UInt8.toNat_lt x
      have hy8 := UInt8.toNat_lt y
      have hLl : (frB2 x y s l).length = 9 + l.length := frB2_length x y s l
      have HB := Lib.hid (fun W (h : Fresh w W) => fbytes_at ty fl st x y s A l.length (9 + l.length) c l _ W hx hy hs rfl rfl hLl hs31 (by omega) (hA.fresh h) hle)
      have HRB := Lib.hid (fun W => rbytes x y s l W hs31 (by omega))
      rw [hr] at HR1 HR2
      have HX := Lib.hid hx
      have HY := Lib.hid hy
      have HS := Lib.hid hs
      rw [← hx, ← hy, ← hs] at HRB
      have HLL := Lib.hid hLl
      have HA := Lib.hid hA
      clear hr hA hx hy hs hLl hx8 hy8
      go_enter Try.func3, Try.ntmps3
      go_wp2_with fail
      with_reducible refine (HB.out _ HT.out.fr).mono ?_
      rintro e w2 ⟨A2, c2, rfl, hn2, hm2, ho2, hf2⟩
      have HT2 := Lib.hid (HT.out.fresh hf2)
      have HO2 := Lib.hid ho2
      clear hf2 ho2
      have HT2w : Hid (OneFr w2 w.heap.size (.int .i64 ty) (.int .i64 fl) (.int .i64 st) (.slice A l.length c) w2) := ⟨HT2.out.1, HT2.out.2.1, HT2.out.2.2.1, HT2.out.2.2.2.1, HT2.out.2.2.2.2.1, Fresh.refl _⟩
      go_wp2_with fail
      have HT2d := Lib.hid (HT2w.out.fresh (Fresh.drew _))
      have hwr : IntKind.i64.wrap ((9 : Int) + (l.length : Int)) = 9 + (l.length : Int) := IntWalk.i64_in _ (by omega)
      have hq1 : (((9 : Int) + (l.length : Int)) != ((9 : Int) + (l.length : Int))) = false := by simp
      go_region_held3 (fun w' => w'.cell? ⟨w.heap.size, 0, none⟩ = some (.int .i64 ty) ∧ w'.cell? ⟨w.heap.size, 1, none⟩ = some (.int .i64 fl) ∧ w'.cell? ⟨w.heap.size, 2, none⟩ = some (.int .i64 st) ∧ w'.cell? ⟨w.heap.size, 3, none⟩ = some (.slice A l.length c) ∧ w.heap.size < w'.heap.size ∧ Fresh w2 w')
        (first | assumption | exact HT2d.out | exact OneFr.fresh (by assumption) hfk)
        (first
          | (go_at_call 11; with_reducible refine (HR1.out _).mono ?_; rintro e w3 ⟨rfl, hfk⟩)
          | (go_at_call 12; with_reducible refine (HR2.out _).mono ?_; rintro e w3 ⟨rfl, hfk⟩)
          | (go_at_call 13; with_reducible refine (HL.out _).mono ?_; rintro e w3 ⟨rfl, hfk⟩)
          | (go_at_call 14; have hFr := OneFr.fr (by assumption : OneFr w2 w.heap.size (.int .i64 ty) (.int .i64 fl) (.int .i64 st) (.slice A l.length c) _); with_reducible refine (HE.out _ (HT2.out.fr.trans hFr)).mono ?_; rintro e w3 ⟨rfl, hfk⟩))
      have HT4 := Lib.hid (by assumption : OneFr w2 w.heap.size (.int .i64 ty) (.int .i64 fl) (.int .i64 st) (.slice A l.length c) _)
      clear hwr hq1
      obtain ⟨c0, c1, c2, c3, c4, c5⟩ := HT4.out
      clear c5
      go_wp2_with fail
      with_reducible refine (HR2.out _).mono ?_
      rintro e w5 ⟨rfl, hf5⟩
      have HT5 := Lib.hid (HT4.out.fresh hf5)
      clear hf5 c0 c1 c2 c3 c4
      have HCB : Hid (∀ W, Fresh w2 W → (convert 22 9 (.slice A2 (9 + l.length) c2)).run Try.prog W = .ok (.string (strB (frB2 x y s l))) W) := fun W h => by
        have := run_str (P := Try.prog) (HO2.out.bytes.1.fresh h) 22 9 5 Try.underlying22 Try.underlying5 Try.underlying9 c2
        rwa [HLL.out] at this
      have HCP : Hid (∀ W, Fresh w2 W → (convert 22 9 (.slice A l.length c)).run Try.prog W = .ok (.string (strB l)) W) := fun W h =>
        run_str (P := Try.prog) (HA.out.fresh (HT2.out.fr.trans h)) 22 9 5 Try.underlying22 Try.underlying5 Try.underlying9 c
      generalize hL : frB2 x y s l = L at *
      have HLd := Lib.hid hL
      clear hL
      obtain ⟨SL, hSL⟩ : ∃ SL, SL = strB L := ⟨_, rfl⟩
      obtain ⟨sl, hsl⟩ : ∃ sl, sl = strB l := ⟨_, rfl⟩
      rw [← hSL] at HCB HRB
      rw [← hsl] at HCP HRB
      clear hSL hsl
      have hqs : (SL.toList != SL.toList) = false := by simp
      have HS5 : Hid (OneFr2 w2 w.heap.size (.int .i64 ty) (.int .i64 fl) (.int .i64 st) (.slice A l.length c) (.slice A2 (9 + l.length) c2) (.slice A l.length c) SL sl w5.drew) := by
        obtain ⟨m0, m1, m2, m3, m4, m5⟩ := HT5.out.fresh (Fresh.drew _)
        exact ⟨m0, m1, m2, m3, m4, m5, HCB.out _ m5, HCP.out _ m5⟩
      go_wp2_with fail
      go_region_held3 (fun w' => w'.cell? ⟨w.heap.size, 0, none⟩ = some (.int .i64 ty) ∧ w'.cell? ⟨w.heap.size, 1, none⟩ = some (.int .i64 fl) ∧ w'.cell? ⟨w.heap.size, 2, none⟩ = some (.int .i64 st) ∧ w'.cell? ⟨w.heap.size, 3, none⟩ = some (.slice A l.length c) ∧ w.heap.size < w'.heap.size ∧ Fresh w2 w' ∧
          (convert 22 9 (.slice A2 (9 + l.length) c2)).run Try.prog w' = .ok (.string SL) w' ∧ (convert 22 9 (.slice A l.length c)).run Try.prog w' = .ok (.string sl) w')
        (first | assumption | exact HS5.out | exact OneFr2.fresh (by assumption) hfk HCB HCP)
        (first
          | (go_at_call 15; with_reducible refine (HRB.out _).mono ?_; rintro e w6 ⟨rfl, hfk⟩)
          | (go_at_call 13; with_reducible refine (HL.out _).mono ?_; rintro e w7 ⟨rfl, hfk⟩))
      have HT7 := Lib.hid (by assumption : OneFr2 w2 w.heap.size (.int .i64 ty) (.int .i64 fl) (.int .i64 st) (.slice A l.length c) (.slice A2 (9 + l.length) c2) (.slice A l.length c) SL sl _)
      clear hqs
      obtain ⟨k0, k1, k2, k3, k4, k5, _, _⟩ := HT7.out
      have HT7w : Hid (OneFr w7 w.heap.size (.int .i64 ty) (.int .i64 fl) (.int .i64 st) (.slice A l.length c) w7) := ⟨k0, k1, k2, k3, k4, Fresh.refl _⟩
      have HF7 := Lib.hid (HT2.out.fr.trans k5)
      have HB7 := Lib.hid (HO2.out.bytes.1.fresh k5)
      have hpk := frB2_parse x y s l [] most (by omega)
      have hpn := frB2_num x y s l [] (by omega)
      have hp3 := frB2_get3 x y s l []
      have hp4 := frB2_get4 x y s l []
      have hps := frB2_stream x y s l [] hs31
      have hpp := frB2_pl x y s l []
      rw [List.append_nil, HLd.out] at hpk hpn hp3 hp4 hps hpp
      clear k5
      by_cases hm : most < (l.length : Int)
      · rw [if_pos hm] at hpk
        have HPN := Lib.hid (fun W (h : Fresh w7 W) => fparse_no A2 (9 + l.length) c2 L most 106 W HLL.out hn2 hm2 (HB7.out.fresh h) 106 hpk (by omega) (by omega))
        have HEZ := Lib.hid (fun W => fequal_at 0 0 0 none 0 [] 0 0 0 0 none 0 [] 0 W true rfl rfl (BS.nil _ _) (BS.nil _ _) (by decide))
        clear hpk hpn hp3 hp4 hps hpp
        go_wp2_with fail
        with_reducible refine (HPN.out _ (Fresh.refl _)).mono ?_
        rintro e w8 ⟨rfl, hf8⟩
        clear k0 k1 k2 k3 k4
        obtain ⟨k0, k1, k2, k3, k4, _⟩ := HT7w.out.fresh hf8
        have HF8 := Lib.hid (hf8.trans (Fresh.alloc w8 (.cells #[.int .i64 0, .int .i64 0, .int .i64 0, .slice none 0 0] 24)))
        clear hf8
        go_wp2_with fail
        with_reducible refine (HEZ.out _).mono ?_
        rintro e w9 ⟨rfl, hf9⟩
        have HF9 := Lib.hid (HF7.out.trans (HF8.out.trans hf9))
        clear hf9 k0 k1 k2 k3 k4
        go_wp2_with fail
        with_reducible refine (HW.out _).mono ?_
        rintro e w10 ⟨rfl, hf10⟩
        have HF10 := Lib.hid (HF9.out.trans hf10)
        clear hf10
        go_wp2
        go_ret
        exact ⟨rfl, HF10.out⟩
      · rw [if_neg hm] at hpk
        have HPN := Lib.hid (fun W (h : Fresh w7 W) => fparse_at A2 (9 + l.length) c2 L most W HLL.out hn2 hm2 (HB7.out.fresh h) x y l.length s ty fl st (9 + (l.length : Int)) l hpk hpn hp3 hp4 hps hpp HX.out HY.out HS.out (by omega))
        clear hpk hpn hp3 hp4 hps hpp
        go_wp2_with fail
        with_reducible refine (HPN.out _ (Fresh.refl _)).mono ?_
        rintro e w8 ⟨A8, rfl, hb8, _, hf8⟩
        clear k0 k1 k2 k3 k4
        obtain ⟨k0, k1, k2, k3, k4, _⟩ := HT7w.out.fresh hf8
        have HF8 := Lib.hid (hf8.trans (Fresh.alloc w8 (.cells #[.int .i64 ty, .int .i64 fl, .int .i64 st, .slice A8 l.length l.length] 24)))
        have HEQ := Lib.hid (fequal_at ty fl st A8 l.length l l.length ty fl st A l.length l c _ true rfl rfl (hb8.fresh (Fresh.alloc w8 (.cells #[.int .i64 ty, .int .i64 fl, .int .i64 st, .slice A8 l.length l.length] 24))) (HA.out.fresh (HF7.out.trans HF8.out)) (by simp [frEq]))
        clear hf8 hb8
        go_wp2_with fail
        with_reducible refine (HEQ.out).mono ?_
        rintro e w9 ⟨rfl, hf9⟩
        have HF9 := Lib.hid (HF7.out.trans (HF8.out.trans hf9))
        clear hf9 k0 k1 k2 k3 k4
        go_wp2_with fail
        with_reducible refine (HW.out _).mono ?_
        rintro e w10 ⟨rfl, hf10⟩
        have HF10 := Lib.hid (HF9.out.trans hf10)
        clear hf10
        go_wp2
        go_ret
        exact ⟨rfl, HF10.out⟩
end Go.Proofs.Ytplpaobbgfdinaa
