/-
  The law EncodePlain.
-/
import Derived.Test.YtdoddpigiencjaaEncS
import Derived.Test.YtdoddpigiencjaaDecQ
import Derived.Test.YtdoddpigiencjaaEncI
import Derived.Test.YtdoddpigiencjaaBslW
namespace Go.Proofs.Ytdoddpigiencjaa
set_option maxRecDepth 100000
set_option linter.unusedVariables false
set_option linter.unusedSimpArgs false
open Go.RowKit
theorem strB_take (l : List UInt8) (k : Nat) (h : k ≤ l.length) : (strB l).extract 0 k = strB (l.take k) := by
  have := strB_cut l 0 k (by omega)
  simpa using this
def PlnP (w : World) (r : Bool) (e : Ending) (w' : World) : Prop := e = .returned (.bool r) ∧ Fresh w w'
set_option maxHeartbeats 6400000 in
theorem en_forms (l0 : List UInt8) (hl : l0.length ≤ 300) (r : Bool) (hr : plainB l0 = r) (hok : OkS 1099511627776 l0) (A2 : Option Addr) (n2 c2 : Nat) (w : World) :
    Calls Try.prog 23 #[.string (strB l0), .slice A2 n2 c2] w (PlnP w r) := by
  have HREF := Lib.hid (fun (l : List UInt8) W (hl : l.length ≤ 300) => show Calls Try.prog 22 #[.agg #[.slice none 0 0, .int .i64 0, .int .i64 0, .int .i64 1099511627776, .bool false], .string (strB l)] W (Ref7P W 0 1099511627776 (blockR 0 1099511627776 l.length [] 0 0 [] l)) from rf7_decode none 0 [] 0 0 1099511627776 l W (Li7.nil W) (by decide) (by decide) (by decide) (by simp [tz]) (by decide) (by decide) (by omega))
  have HFIN : Hid (∀ b W, b = r → Fresh w W → PlnP w r (.returned (.bool b)) W) := Lib.hid (fun b W h hf => ⟨by rw [h], hf⟩)
  have HST : Hid (∃ S, S = strB l0 ∧ (∃ l, S = strB l ∧ l.length ≤ 300 ∧ plainB l = r ∧ OkS 1099511627776 l)) := Lib.hid ⟨_, rfl, l0, rfl, hl, hr, hok⟩
  have hn2i : (0 : Int) ≤ (n2 : Int) := by omega
  have hn2d : decide ((0 : Int) ≤ (n2 : Int)) = true := decide_eq_true hn2i
  clear hl hr hok
  generalize PlnP w r = PP at *
  obtain ⟨S0, hS0, hS1⟩ := HST.out
  have HS1 := Lib.hid hS1
  rw [← hS0]
  clear hS1 hS0 HST
  unfold Ref7P at HREF
  go_enter Try.func23, Try.ntmps23
  go_wp2_with fail
  go_loopw [0] (fun b wr => ∃ l : List UInt8, b = .string (strB l) ∧ l.length ≤ 300 ∧ plainB l = r ∧ OkS 1099511627776 l ∧ Fresh w wr) (fun b _ => match b with | .string s => s.size | _ => 0)
  case atStart =>
    obtain ⟨l, h1, h2, h3, h4⟩ := HS1.out
    exact ⟨l, by rw [h1], h2, h3, h4, Fresh.refl _⟩
  case round =>
    obtain ⟨l, rfl, hl, hp, hok, hf⟩ := hrel
    have HF := Lib.hid hf
    have HOK := Lib.hid hok
    have HP := Lib.hid hp
    have HL := Lib.hid hl
    clear hf hok hp HS1
    cases l with
    | nil =>
      have hs00 : (strB []).size = 0 := rfl
      have hrt : r = true := by have := HP.out; rw [plainB_nil] at this; exact this.symm
      have HX := Lib.hid (HFIN.out true _ hrt.symm HF.out)
      generalize strB [] = S at *
      clear hrt
      go_wp2
      exact HX.out
    | cons x t =>
      have hS0 : 0 < (strB (x :: t)).size := by rw [strB_size]; simp
      have hg : (strB (x :: t))[0] = x := rfl
      obtain ⟨n, hn⟩ : ∃ n, (x :: t).length = n := ⟨_, rfl⟩
      have HN := Lib.hid hn
      have hsz : (strB (x :: t)).size = n := by rw [strB_size, hn]
      have hnp : (0 : Int) < (n : Int) := by rw [← hn]; simp
      have hn300 : n ≤ 300 := by rw [← hn]; exact hl
      clear hn hl
      by_cases hx : 32 ≤ x.toNat ∧ x.toNat < 128
      · have hx1 : (32 : Int) ≤ (x.toNat : Int) := by omega
        have hx2 : (x.toNat : Int) < 128 := by omega
        have hrf : r = false := by
          have := HP.out
          rw [plainB_step (by simp), pf_none hx] at this
          exact this.symm
        have HX := Lib.hid (fun W hf => HFIN.out false W hrf.symm hf)
        clear hrf hx
        generalize strB (x :: t) = S at *
        go_wp2
        exact HX.out _ HF.out
      · obtain ⟨v, hpf, hok2⟩ := HOK.out.step (by simp) (by simpa using hx)
        have hbd := pfR_bd hpf
        have HB := Lib.hid hbd
        rw [HN.out] at hbd
        have HOK2 := Lib.hid hok2
        have HP2 : Hid (plainB ((x :: t).drop v) = r) := Lib.hid (by
          have := HP.out
          rw [plainB_step (by simp), hpf] at this
          exact this)
        have HONE := Lib.hid (bl_one (bound := 1099511627776) hpf (by decide))
        have HLESS := Lib.hid (fun k h1 h2 => bl_less (bound := 1099511627776) (n := k) hpf h1 h2)
        have HTK : Hid (∀ k, k ≤ n → (strB (x :: t)).extract 0 k = strB ((x :: t).take k)) := Lib.hid (fun k hk => strB_take _ _ (by rw [HN.out]; exact hk))
        have HDR : Hid (∀ u, (strB (x :: t)).extract u n = strB ((x :: t).drop u)) := Lib.hid (fun u => by rw [← HN.out]; exact str_drop7 _ _)
        have HTL : Hid (∀ k, ((x :: t).take k).length ≤ 300) := Lib.hid (fun k => by rw [List.length_take, HN.out]; omega)
        have HDL : Hid (((x :: t).drop v).length = n - v) := Lib.hid (by rw [List.length_drop, HN.out])
        have hxt : (decide ((32 : Int) ≤ (x.toNat : Int)) && decide ((x.toNat : Int) < 128)) = false := by
          rw [Bool.and_eq_false_iff]
          by_cases h : 32 ≤ x.toNat
          · right; exact decide_eq_false (by omega)
          · left; exact decide_eq_false (by omega)
        have hxc : (decide ((32 : Int) ≤ (x.toNat : Int)) = false) ∨ (decide ((32 : Int) ≤ (x.toNat : Int)) = true ∧ decide ((x.toNat : Int) < 128) = false) := by
          by_cases h : 32 ≤ x.toNat
          · right; exact ⟨decide_eq_true (by omega), decide_eq_false (by omega)⟩
          · left; exact decide_eq_false (by omega)
        clear hpf hok2 hx HOK HP hxt
        generalize strB (x :: t) = S at *
        generalize (x :: t) = L at *
        rcases hxc with hx1 | ⟨hx1, hx2⟩
        all_goals
          have hnd : decide (0 < n) = true := decide_eq_true (by omega)
          go_wp2_with fail
          try simp only [hnd]
          go_loopw [5, 6, 7, 8] (fun i _ _ _ wr => ∃ k : Nat, i = .int .i64 (k : Int) ∧ 1 ≤ k ∧ k ≤ v ∧ Fresh w wr) (fun i _ _ _ _ => v - (intOf i).toNat)
          case atStart => exact ⟨1, rfl, by omega, hbd.1, HF.out⟩
          case round =>
            obtain ⟨k, rfl, hk1, hkv, hfk⟩ := hrel
            have HFK := Lib.hid hfk
            clear hfk
            by_cases hkn : k < n
            · have hkn' : (k : Int) < (n : Int) := by omega
              have hext := HTK.out k (by omega)
              have HRD := Lib.hid (HREF.out (L.take k) wr (HTL.out k))
              by_cases hke : k = v
              · subst hke
                obtain ⟨y, hone⟩ := HONE.out
                rw [hone] at HRD
                simp only [List.length_cons, List.length_nil] at HRD
                have hct := HDR.out k
                have HREL : Hid (((L.drop k).length = n - k) ∧ n - k < n ∧ plainB (L.drop k) = r ∧ OkS 1099511627776 (L.drop k) ∧ (strB (L.drop k)).size = n - k) := Lib.hid ⟨HDL.out, by omega, HP2.out, HOK2.out, by rw [strB_size, HDL.out]⟩
                clear hone
                generalize strB (L.take k) = SK at *
                go_wp2_with fail
                with_reducible refine HRD.out.mono ?_
                rintro e w2 ⟨A, c, A3, c3, rfl, _, _, hf2⟩
                have HF2 := Lib.hid (HFK.out.trans hf2)
                clear hf2
                go_wp2
                exact ⟨⟨L.drop k, by rfl, by rw [HREL.out.1]; omega, HREL.out.2.2.1, HREL.out.2.2.2.1, HF2.out.trans (by repeat (first | with_reducible exact Fresh.alloc _ _ | with_reducible exact Fresh.refl _))⟩, by show (strB (L.drop k)).size < S.size; rw [HREL.out.2.2.2.2, hsz]; exact HREL.out.2.1⟩
              · have HNE := Lib.hid (HLESS.out k hk1 (by omega))
                generalize hR : blockR 0 1099511627776 (L.take k).length [] 0 0 [] (L.take k) = R at *
                obtain ⟨er, out, fs, lm⟩ := R
                simp only at HNE HRD
                have hne := HNE.out
                have hnei : ((er : Int) == 0) = false := by simp; omega
                have hnej : ¬ (er : Int) = 0 := by omega
                generalize strB (L.take k) = SK at *
                clear hR
                go_wp2_with fail
                with_reducible refine HRD.out.mono ?_
                rintro e w2 ⟨A, c, A3, c3, rfl, _, _, hf2⟩
                have HF2 := Lib.hid (HFK.out.trans hf2)
                clear hf2
                go_wp2
                go_roundw
                case rel => exact ⟨k + 1, by go_num, by omega, by omega, HF2.out.trans (by repeat (first | with_reducible exact Fresh.alloc _ _ | with_reducible exact Fresh.refl _))⟩
                case measure => simp [intOf]; omega
            · obtain rfl : k = v := by omega
              have hkn2 : k = n := by omega
              have hkn' : ¬ (k : Int) < (n : Int) := by omega
              have HREL : Hid ((([] : List UInt8).length ≤ 300) ∧ plainB [] = r ∧ OkS 1099511627776 []) := Lib.hid (by
                have h0 : L.drop k = [] := List.length_eq_zero_iff.1 (by rw [HDL.out]; omega)
                have h1 := HP2.out
                have h2 := HOK2.out
                rw [h0] at h1 h2
                exact ⟨by simp, h1, h2⟩)
              go_wp2
              exact ⟨⟨[], by rfl, HREL.out.1, HREL.out.2.1, HREL.out.2.2, HFK.out⟩, by show 0 < S.size; omega⟩
def EplP (w : World) (e : Ending) (w' : World) : Prop := e = .returned (.bool true) ∧ Fresh w w'
set_option maxHeartbeats 6400000 in
theorem EncodePlain_any (b : BSl) (w : World) (hb : b.Ok w) :
    Calls Try.prog 5 #[.slice b.A b.l.length b.c] w fun e w' => e = .returned (.bool true) ∧ Below w.heap.size w w' := by
  show Calls _ _ _ _ (EplP w)
  have HAW := Lib.hid en_awake
  have HFIN : Hid (∀ W, Fresh w W → EplP w (.returned (.bool true)) W) := Lib.hid (fun W h => ⟨rfl, h⟩)
  obtain ⟨A, c, l⟩ := b
  have hle := hb.le
  have hmx := hb.max
  have hbs := hb.bs
  simp only at hle hmx hbs ⊢
  have hl9 : l.length ≤ 140737488351232 := Nat.le_trans hle hmx
  have HPN := Lib.hid (fun W (hl : l.length ≤ 300) (hf : Fresh w W) => en_plain A c l W (by omega) hle (by unfold maxLen; omega) (hbs.fresh hf))
  have HFO := Lib.hid (fun (hl : l.length ≤ 300) (hok : OkS 1099511627776 l) A2 n2 c2 W => en_forms l hl (plainB l) rfl hok A2 n2 c2 W)
  have HREF := Lib.hid (fun W (hl : l.length ≤ 300) => show Calls Try.prog 22 #[.agg #[.slice none 0 0, .int .i64 0, .int .i64 0, .int .i64 1099511627776, .bool false], .string (strB l)] W (Ref7P W 0 1099511627776 (blockR 0 1099511627776 l.length [] 0 0 [] l)) from rf7_decode none 0 [] 0 0 1099511627776 l W (Li7.nil W) (by decide) (by decide) (by decide) (by simp [tz]) (by decide) (by decide) (by omega))
  have HCV : Hid (∀ W, Fresh w W → (convert 29 9 (.slice A l.length c)).run Try.prog W = .ok (.string (strB l)) W) := Lib.hid (fun W hf => run_str (hbs.fresh hf) _ _ _ Try.underlying29 Try.underlying5 Try.underlying9 c)
  have HPE : Hid (plainB l = true → l.length ≤ 300 → (blockR 0 1099511627776 l.length [] 0 0 [] l).1 = 0) := Lib.hid (fun h hl => bl_plain 0 1099511627776 0 l.length l 0 [] (Nat.le_refl _) h (by omega))
  have HOK : Hid ((blockR 0 1099511627776 l.length [] 0 0 [] l).1 = 0 → OkS 1099511627776 l) := Lib.hid (fun h => ⟨0, [], h⟩)
  unfold Ref7P at HREF
  clear hb hbs hle hmx
  generalize hPB : plainB l = pb at *
  clear hPB
  generalize EplP w = PP at *
  generalize hRR : blockR 0 1099511627776 l.length [] 0 0 [] l = R at *
  clear hRR
  generalize strB l = S at *
  obtain ⟨n, hn⟩ : ∃ n, l.length = n := ⟨_, rfl⟩
  rw [hn] at hl9 HPN HFO HREF HCV HPE ⊢
  clear hn
  obtain ⟨er, out, fs, lm⟩ := R
  simp only at HREF HPE HOK
  by_cases hbig : 300 < n
  · have h1 : (300 : Int) < (n : Int) := by omega
    go_enter Try.func5, Try.ntmps5
    go_wp2_with fail
    with_reducible refine (HAW.out _).mono ?_
    rintro e w3 ⟨rfl, hf3⟩
    have HX := Lib.hid (HFIN.out _ hf3)
    clear hf3
    go_wp2
    exact HX.out
  · have h1 : ¬ (300 : Int) < (n : Int) := by omega
    have hn3 : n ≤ 300 := by omega
    have HREF := Lib.hid (fun W => HREF.out W hn3)
    have HPN := Lib.hid (fun W hf => HPN.out W hn3 hf)
    have HFO := Lib.hid (fun hok A2 n2 c2 W => HFO.out hn3 hok A2 n2 c2 W)
    have HPE := Lib.hid (fun h => HPE.out h hn3)
    have hcv := HCV.out w (Fresh.refl _)
    clear hbig
    by_cases he : er = 0
    · subst he
      have HFO := Lib.hid (fun A2 n2 c2 W => HFO.out (HOK.out rfl) A2 n2 c2 W)
      unfold PlnP at HFO
      cases pb
      all_goals
        go_enter Try.func5, Try.ntmps5
        go_wp2_with fail
        with_reducible refine (HREF.out _).mono ?_
        rintro e w2 ⟨A, c, A3, c3, rfl, _, _, hf2⟩
        rw [show ((0 : Nat) : Int) = 0 from rfl]
        have HF2 := Lib.hid hf2
        clear hf2
        go_wp2_with fail
        with_reducible refine (HPN.out _ (HF2.out.trans (Fresh.alloc _ _))).mono ?_
        rintro e w4 ⟨rfl, hf4⟩
        have HF4 := Lib.hid ((HF2.out.trans (Fresh.alloc _ _)).trans hf4)
        have hcv4 := HCV.out w4 HF4.out
        clear hf4
        go_wp2_with fail
        with_reducible refine (HFO.out _ _ _ _).mono ?_
        rintro e w5 ⟨rfl, hf5⟩
        have HF5 := Lib.hid (HF4.out.trans hf5)
        clear hf5
        go_wp2_with fail
        with_reducible refine (HPN.out _ HF5.out).mono ?_
        rintro e w6 ⟨rfl, hf6⟩
        have HF6 := Lib.hid (HF5.out.trans hf6)
        clear hf6
        go_wp2_with fail
        with_reducible refine (HAW.out _).mono ?_
        rintro e w7 ⟨rfl, hf7⟩
        have HX := Lib.hid (HFIN.out _ (HF6.out.trans hf7))
        clear hf7
        go_wp2
        exact HX.out
    · have hpb : pb = false := by
        cases pb
        · rfl
        · exact absurd (HPE.out rfl) he
      subst hpb
      have d1 : ((er : Int) != 0) = true := by simp; omega
      have d2 : ¬ (er : Int) = 0 := by omega
      go_enter Try.func5, Try.ntmps5
      go_wp2_with fail
      with_reducible refine (HREF.out _).mono ?_
      rintro e w2 ⟨A, c, A3, c3, rfl, _, _, hf2⟩
      have HF2 := Lib.hid hf2
      clear hf2
      go_wp2_with fail
      with_reducible refine (HPN.out _ (HF2.out.trans (Fresh.alloc _ _))).mono ?_
      rintro e w4 ⟨rfl, hf4⟩
      have HF4 := Lib.hid ((HF2.out.trans (Fresh.alloc _ _)).trans hf4)
      clear hf4
      go_wp2_with fail
      with_reducible refine (HAW.out _).mono ?_
      rintro e w7 ⟨rfl, hf7⟩
      have HX := Lib.hid (HFIN.out _ (HF4.out.trans hf7))
      clear hf7
      go_wp2
      exact HX.out
end Go.Proofs.Ytdoddpigiencjaa

